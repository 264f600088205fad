/- A part of the proof. -/
import Derived.Test.YtdodlephmmpemaaPB
set_option linter.unusedSimpArgs false
set_option linter.unusedVariables false
namespace Go.Proofs
open Go Go.Sx
attribute [local irreducible] Run

section
variable {P : Program} {G : Ctx} {k : Nat} {rd : Option Nat} {fs : List Sx.Frame} {Q : Sx.Goal}
theorem loop_indM {α : Type} {c c' : ACode} (hc : c = c') (Inv : α → Prop) (μ : α → Nat) (st : α → List AVal × Heap × List Nat) {ρ : List AVal} {H : Heap} {ms : List Nat} (a0 : α) (h0 : Inv a0) (hw : Wk ρ (st a0).1) (hH : H = (st a0).2.1) (hm : ms = (st a0).2.2)
    (step : ∀ a, Inv a → (∀ b, μ b < μ a → Inv b → ∀ ρ', Wk ρ' (st b).1 → Sx.Loop P G k rd c fs ⟨ρ', (st b).2.1, (st b).2.2⟩ Q) → Run P G k rd 3000 (.code c') (.rnd c :: fs) ⟨(st a).1, (st a).2.1, (st a).2.2⟩ Q) : Sx.Loop P G k rd c fs ⟨ρ, H, ms⟩ Q := by
  have key : ∀ (n : Nat) (a : α), μ a = n → Inv a → ∀ ρ', Wk ρ' (st a).1 → Sx.Loop P G k rd c fs ⟨ρ', (st a).2.1, (st a).2.2⟩ Q := by
    intro n
    induction n using Nat.strongRecOn with
    | ind n ih =>
      intro a ha hi ρ' hw
      exact loop_wk hw (loop_body 3000 hc (step a hi fun b hb hib ρ'' hw'' => ih (μ b) (by omega) b rfl hib ρ'' hw''))
  subst hH
  subst hm
  exact key _ a0 rfl h0 ρ hw
end

structure LoOK (p : Pl) (bs : List Bool) (es : List Nat) : Prop where
  len : bs.length = 256
  mem : ∀ c ∈ es, c < p.w * p.h
  iff : ∀ c, bs.getD c false = true ↔ c ∈ es
  cnt : es.length = bs.count true

theorem getD_set (bs : List Bool) (c d : Nat) (h : c < bs.length) : (bs.set c true).getD d false = if d = c then true else bs.getD d false := by
  rw [List.getD_eq_getElem?_getD, List.getD_eq_getElem?_getD]
  by_cases e : d = c
  · subst e; rw [List.getElem?_set_self h]; simp
  · rw [List.getElem?_set_ne (by omega)]; simp [e]

theorem LoOK.add {p : Pl} (hp : PlOK p) {bs : List Bool} {es : List Nat} (h : LoOK p bs es) {c : Nat} (hc : c < p.w * p.h) (hb : bs.getD c false = false) : LoOK p (bs.set c true) (es ++ [c]) := by
  have hN : p.w * p.h ≤ 256 := Nat.mul_le_mul hp.w.2 hp.h.2
  have hcl : c < bs.length := by rw [h.len]; omega
  refine ⟨by simp [h.len], fun d hd => ?_, fun d => ?_, ?_⟩
  · rcases List.mem_append.1 hd with hd | hd
    · exact h.mem d hd
    · simp at hd; subst hd; exact hc
  · rw [getD_set _ _ _ hcl, List.mem_append, ← h.iff d]
    by_cases e : d = c <;> simp [e]
  · have hg : bs[c] = false := by
      rw [List.getD_eq_getElem?_getD, List.getElem?_eq_getElem hcl] at hb; exact hb
    rw [List.count_set hcl, hg, List.length_append, h.cnt]
    simp
theorem LoOK.le {p : Pl} {bs : List Bool} {es : List Nat} (h : LoOK p bs es) : es.length ≤ 256 := by
  rw [h.cnt, ← h.len]; exact List.count_le_length
theorem LoOK.full {p : Pl} (hp : PlOK p) {bs : List Bool} {es : List Nat} (h : LoOK p bs es) (hall : ∀ c, c < p.w * p.h → c ∈ es) : p.w * p.h ≤ es.length := by
  have hN : p.w * p.h ≤ 256 := Nat.mul_le_mul hp.w.2 hp.h.2
  rw [h.cnt]
  have e : bs = bs.take (p.w * p.h) ++ bs.drop (p.w * p.h) := (List.take_append_drop _ _).symm
  rw [e, List.count_append]
  have h1 : (bs.take (p.w * p.h)).count true = (bs.take (p.w * p.h)).length := by
    rw [List.count_eq_length]
    intro b hb
    obtain ⟨i, hi, rfl⟩ := List.mem_iff_getElem.1 hb
    rw [List.length_take] at hi
    have := (h.iff i).2 (hall i (by omega))
    rw [List.getD_eq_getElem?_getD, List.getElem?_eq_getElem (by omega)] at this
    rw [List.getElem_take]
    exact this.symm
  rw [h1, List.length_take, h.len]
  omega

def bv (bs : List Bool) : List AVal := bs.map .bool
def nv' (es : List Nat) : List AVal := List.map (fun c : Nat => AVal.int .i64 (c : Int)) es
theorem bv_set {bs : List Bool} {c : Nat} (h : c < bs.length) : (bv bs).take c ++ AVal.bool true :: (bv bs).drop (c + 1) = bv (bs.set c true) := by
  unfold bv
  rw [List.map_set, List.set_eq_take_append_cons_drop, if_pos (by simpa using h)]
theorem bv_get {bs : List Bool} {c : Nat} (h : c < bs.length) : (bv bs)[c]? = some (.bool (bs.getD c false)) := by
  simp [bv, List.getD_eq_getElem?_getD, List.getElem?_eq_getElem h]
theorem bv_len (bs : List Bool) : (bv bs).length = bs.length := by simp [bv]
theorem nv_len (es : List Nat) : (nv' es).length = es.length := by simp [nv']
theorem nv_get {es : List Nat} {i : Nat} (h : i < es.length) : (nv' es)[i]? = some (.int .i64 (es[i] : Int)) := by simp [nv', h]
theorem nv_app (es : List Nat) (c : Nat) : nv' es ++ [.int .i64 (c : Int)] = nv' (es ++ [c]) := by simp [nv']

def loF (p : Pl) (bs : List Bool) (es : List Nat) (g : Option Row) : Heap :=
  [some (.cells false 4 [p.v]), some (.cells false 256 [.agg (bv bs)]), some (.cells false 1 [.sl 4 0 es.length]), g, some (.cells true 1 (nv' es))]
def loI (p : Pl) (bs : List Bool) : Heap :=
  [some (.cells false 4 [p.v]), some (.cells false 256 [.agg (bv bs)]), some (.cells false 1 [.nilsl])]

def LoA (p : Pl) (i : Nat) (bs : List Bool) (es : List Nat) (H : Heap) : Prop :=
  LoOK p bs es ∧ (∀ c, c < i → p.el c → c ∈ es) ∧ (∀ c ∈ es, c < i) ∧ ((es = [] ∧ H = loI p bs) ∨ (es ≠ [] ∧ ∃ g X, H = loF p bs es g ++ X))

def loH (p : Pl) (bs : List Bool) (es : List Nat) (g : Option Row) (X T Y : Heap) : Heap := loF p bs es g ++ (X ++ (T ++ Y))
theorem loH_get (p : Pl) (bs : List Bool) (es : List Nat) (g : Option Row) (X T Y : Heap) {j : Nat} (hj : j < T.length) : (loH p bs es g X T Y)[X.length + 5 + j]? = T[j]? := by
  unfold loH
  rw [List.getElem?_append_right (by simp [loF]; omega), List.getElem?_append_right (by simp [loF]; omega), List.getElem?_append_left (by simp [loF]; omega)]
  congr 1
  simp [loF]; omega
theorem loH_old (p : Pl) (bs : List Bool) (es : List Nat) (g : Option Row) (X T Y : Heap) {k : Nat} (hk : k < X.length) : (loH p bs es g X T Y)[k + 5]? = X[k]? := by
  unfold loH
  rw [List.getElem?_append_right (by simp [loF]), List.getElem?_append_left (by simp [loF]; exact hk)]
  congr 1
theorem loH_put (p : Pl) (bs : List Bool) (es : List Nat) (g a b c d : Option Row) (X Y : Heap) (y : Row) : Heap.put (loH p bs es g X [a, b, c, d] Y) (X.length + 8) y = loH p bs es g X [a, b, c, some y] Y := by
  rw [put_lt (by simp [loH, loF]; omega)]
  unfold loH
  rw [List.set_append_right _ _ (by simp [loF]), List.set_append_right _ _ (by simp [loF]), List.set_append_left _ _ (by simp [loF])]
  have e : X.length + 8 - (loF p bs es g).length - X.length = 3 := by simp only [loF, List.length_cons, List.length_nil]; omega
  rw [e]; rfl
theorem loH_len (p : Pl) (bs : List Bool) (es : List Nat) (g : Option Row) (X T Y : Heap) : (loH p bs es g X T Y).length = X.length + T.length + Y.length + 5 := by
  simp [loH, loF]; omega
theorem loH_set (p : Pl) (bs : List Bool) (es : List Nat) (g a b c d : Option Row) (X Y : Heap) (y : Option Row) : (loH p bs es g X [a, b, c, d] Y).set (X.length + 8) y = loH p bs es g X [a, b, c, y] Y := by
  unfold loH
  rw [List.set_append_right _ _ (by simp [loF]), List.set_append_right _ _ (by simp [loF]), List.set_append_left _ _ (by simp [loF])]
  have e : X.length + 8 - (loF p bs es g).length - X.length = 3 := by simp only [loF, List.length_cons, List.length_nil]; omega
  rw [e]; rfl
def loT (n m : Nat) : List (Nat × AVal) := [(1, .ptr 0 0 0 1), (3, .ptr 1 0 0 1), (4, .ptr 2 0 0 1), (7, .int .i64 n), (37, .fn (.func n_field_neighbours_1) [] [.ptr (m + 6) 0 0 1, .ptr (m + 5) 0 0 1])]
def loL (n m : Nat) (st : LoopState) (pe : Option ACode) : Row := .loop (tsets 56 (loT n m)) [38, 39] k_field_loose_r18 k_field_loose_r19 (m + 7) st pe
def loR (p : Pl) (c n m : Nat) (st : LoopState) : Heap := [some (.cells false 4 [p.v]), some (.cells false 1 [.int .i64 c]), some .dfr, some (loL n m st none)]

def LoI (p : Pl) (n : Nat) (bs : List Bool) (es : List Nat) (X : Heap) (ms : List Nat) : Prop :=
  n ≤ es.length ∧ es ≠ [] ∧ LoOK p bs es ∧ (∀ m, m < n → ∀ q ∈ nbs p (es.getD m 0), q.1 ∈ es) ∧ ms.Nodup ∧ ∀ q ∈ ms, ∃ k, q = k + 5 ∧ X[k]? = some (some .dfr)

set_option maxHeartbeats 4000000 in
set_option maxRecDepth 8000 in
theorem loose_ok {p : Pl} (hp : PlOK p) : Ans Try.prog n_field_loose [p.v] [] (.bool false) [] := by
  have hw := hp.w; have hh := hp.h
  have hN : p.w * p.h ≤ 256 := Nat.mul_le_mul hw.2 hh.2
  have hlen := hp.len
  refine spec_run e_field_loose fun G => ?_
  simp only [go_sem, Pl.v, Pl.a, Pl.c4, vw, List.length_map]
  have hbs0 : LoOK p (List.replicate 256 false) [] := ⟨by simp, by simp, fun c => by
    rw [List.getD_eq_getElem?_getD, List.getElem?_replicate]; split <;> simp, by simp [List.count_replicate]⟩
  refine loop_ind k_field_loose_r10.eq_1 (fun a : Nat × List Bool × List Nat × Heap => a.1 ≤ p.cs.length ∧ LoA p a.1 a.2.1 a.2.2.1 a.2.2.2) (fun a => p.cs.length - a.1)
    (fun a => (tsets 56 [(1, .ptr 0 0 0 1), (3, .ptr 1 0 0 1), (4, .ptr 2 0 0 1), (10, vw p.cs), (11, .int .i64 p.cs.length), (12, .int .i64 a.1)], a.2.2.2)) (0, List.replicate 256 false, [], loI p (List.replicate 256 false)) ⟨Nat.zero_le _, hbs0, fun c hc => absurd hc (Nat.not_lt_zero _), fun c hc => by simp at hc, .inl ⟨rfl, rfl⟩⟩ (by simp [go_sem, vw]) rfl ?_
  rintro ⟨i, bs, es, H⟩ ⟨hi, hlo, hel, hlt, hH⟩ ih
  dsimp only at hi hlo hel hlt hH ih ⊢
  by_cases h1 : i < p.cs.length
  · have h2 : (i : Int) < p.cs.length := by omega
    have h3 := idx_next h1 (by omega)
    have n0 : ¬ (i : Int) < 0 := by omega
    have hiN : i < p.w * p.h := by rw [← hlen]; exact h1
    have hx := gt_get h1
    by_cases hz : gt p.cs i = 0
    · have hz' : (gt p.cs i != 0) = false := by simp [hz]
      have ihn := ih (i + 1, bs, es, H) (by dsimp only; omega) ⟨h1, hlo, fun c hc hE => by
        by_cases e : c = i
        · subst e; exact absurd hz hE
        · exact hel c (by dsimp only at hc; omega) hE, fun c hc => by have := hlt c hc; dsimp only; omega, hH⟩
      clear ih
      generalize gt p.cs i = z at *
      simp only [go_sem, vw, List.length_map, h2, n0, hx, hz', h3]
      exact ihn _ (by simp [go_sem, vw])
    · have hz' : (gt p.cs i != 0) = true := by simp [hz]
      have hni : i ∉ es := fun h => by have := hlt i h; omega
      have hbi : bs.getD i false = false := by
        cases hb : bs.getD i false with
        | false => rfl
        | true => exact absurd ((hlo.iff i).1 hb) hni
      have hbl : i < bs.length := by rw [hlo.len]; omega
      have hadd := hlo.add hp hiN hbi
      have hset := bv_set hbl
      have q256 : (i : Int) < 256 := by omega
      have q0 : (0 : Int) ≤ i := by omega
      have hle := hlo.le
      have ihn := fun g X => ih (i + 1, bs.set i true, es ++ [i], loF p (bs.set i true) (es ++ [i]) g ++ X) (by dsimp only; omega) ⟨h1, hadd, fun c hc hE => by
        by_cases e : c = i
        · subst e; simp
        · exact List.mem_append_left _ (hel c (by dsimp only at hc; omega) hE), fun c hc => by
          rcases List.mem_append.1 hc with hc | hc
          · have := hlt c hc; dsimp only; omega
          · simp at hc; subst hc; dsimp only; omega, .inr ⟨by simp, g, X, rfl⟩⟩
      clear ih
      simp only [loF, List.length_append, List.length_cons, List.length_nil, Nat.zero_add, List.cons_append, List.nil_append] at ihn
      generalize gt p.cs i = z at *
      have hbl2 : i + 1 ≤ (bv bs).length := by rw [bv_len]; omega
      rcases hH with ⟨rfl, rfl⟩ | ⟨hne, g, X, rfl⟩
      · simp only [go_sem, vw, List.length_map, h2, n0, hx, hz', h3, loI, q256, q0, hset, Int.toNat_natCast, hbl2, Nat.mul_one]
        simp only [List.nil_append, List.length_nil, Nat.zero_add, nv', List.map_cons, List.map_nil] at ihn
        exact ⟨by decide, ihn _ [] _ (by simp [go_sem, vw])⟩
      · simp only [go_sem, vw, List.length_map, h2, n0, hx, hz', h3, loF, q256, q0, hset, Int.toNat_natCast, hbl2, Nat.mul_one, nv_app, nv_len]
        exact ⟨by omega, ihn _ _ _ (by simp [go_sem, vw])⟩
  · have h2 : ¬ (i : Int) < p.cs.length := by omega
    have hie : i = p.w * p.h := by omega
    subst hie
    obtain ⟨e0, he0, hE0⟩ := hp.some
    have hne : es ≠ [] := fun h => by have := hel e0 he0 hE0; rw [h] at this; simp at this
    obtain ⟨g, X, rfl⟩ : ∃ g X, H = loF p bs es g ++ X := by
      rcases hH with ⟨h, _⟩ | ⟨_, h⟩
      · exact absurd h hne
      · exact h
    simp only [go_sem, vw, List.length_map, h2]
    clear ih hH hel hlt
    refine loop_indM k_field_loose_r21.eq_1 (fun a : Nat × List Bool × List Nat × Heap × List Nat => LoI p a.1 a.2.1 a.2.2.1 a.2.2.2.1 a.2.2.2.2) (fun a => 257 - a.1)
      (fun a => (tsets 56 [(1, .ptr 0 0 0 1), (3, .ptr 1 0 0 1), (4, .ptr 2 0 0 1), (7, .int .i64 a.1)], loF p a.2.1 a.2.2.1 g ++ a.2.2.2.1, a.2.2.2.2)) (0, bs, es, X, []) ⟨Nat.zero_le _, hne, hlo, fun m hm => absurd hm (Nat.not_lt_zero _), List.nodup_nil, fun q hq => by simp at hq⟩ (by simp [go_sem]) rfl rfl ?_
    clear hlo hne
    rintro ⟨n, bs, es, X, ms⟩ ⟨hn, hne, hlo, hcl, hms1, hms2⟩ ih
    dsimp only at hn hne hlo hcl hms1 hms2 ih ⊢
    have hle := hlo.le
    by_cases h1 : n < es.length
    · have h2 : (n : Int) < es.length := by omega
      have n0 : ¬ (n : Int) < 0 := by omega
      have hgn := nv_get h1
      have hcm := hlo.mem _ (List.getElem_mem h1)
      generalize hc : es[n] = c at *
      simp only [go_sem, loF, h2, n0, hgn, nv_len, Pl.v, Pl.a, Pl.c4, vw]
      have hdf : ∀ (L : Heap), ∀ q ∈ ms, (loF p bs es g ++ (X ++ L))[q]? = some (some .dfr) := fun L q hq => by
        obtain ⟨k, rfl, hk⟩ := hms2 q hq
        have hkl := (List.getElem?_eq_some_iff.1 hk).1
        have := loH_old p bs es g X [] L hkl
        unfold loH at this
        rw [List.nil_append] at this
        rw [this]; exact hk
      refine cN2 (neighbours_ok p c) ?_ (hms := by have := hdf []; rw [List.append_nil] at this; exact this)
      simp only [go_sem, ren, rens]
      have hl : (loF p bs es g ++ (X ++ [some (Row.cells false 4 [p.v]), some (Row.cells false 1 [.int .i64 c])])).length = X.length + 7 := by simp [loF]
      show Mean Try.prog G 0 none _ _ ⟨_, loF p bs es g ++ (X ++ [some (Row.cells false 4 [p.v]), some (Row.cells false 1 [.int .i64 c])]), ms⟩ _
      refine rangeF 2000 (ρ := tsets 56 (loT n X.length)) (by simp [go_sem, loT]) (by simp only [go_sem, loT]; rfl)
        (R := fun v H' => v = .tup [] ∧ ((∃ bs' es' Y, H' = loH p bs' es' g X (loR p c n X.length .ready) Y ∧ LoOK p bs' es' ∧ (∃ t, es' = es ++ t) ∧ ∀ j, j < (nbs p c).length → ∀ q, (nbs p c)[j]? = some q → q.1 ∈ es') ∨ False)) ?_ (by simp) ?_
      · rw [hl]
        have hheap : loF p bs es g ++ (X ++ [some (.cells false 4 [p.v]), some (.cells false 1 [.int .i64 c])]) ++ [some .dfr] ++ [some (.loop (tsets 56 (loT n X.length)) [38, 39] k_field_loose_r18 k_field_loose_r19 (X.length + 7) .ready none)] = loH p bs es g X (loR p c n X.length .ready) [] := by
          simp [loH, loR, loL]
        rw [hheap]
        refine nbs1_iter hp hcm (r := X.length + 8) (jc := X.length + 6) (jp := X.length + 5) (N := X.length + 9) (Pre := fun k H => ∃ bs' es' Y, H = loH p bs' es' g X (loR p c n X.length .ready) Y ∧ LoOK p bs' es' ∧ (∃ t, es' = es ++ t) ∧ ∀ j, j < k → ∀ q, (nbs p c)[j]? = some q → q.1 ∈ es') (Stop := fun _ => False) ⟨?_, ?_⟩
          ⟨bs, es, [], rfl, hlo, ⟨[], by simp⟩, fun j hj => absurd hj (Nat.not_lt_zero _)⟩ (by rw [loH_len]; simp [loR])
        · rintro k H ⟨bs', es', Y, rfl, -⟩
          exact ⟨by rw [loH_len]; simp [loR], loH_get p bs' es' g X (loR p c n X.length .ready) Y (j := 1) (by simp [loR]), loH_get p bs' es' g X (loR p c n X.length .ready) Y (j := 0) (by simp [loR])⟩
        · rintro k ⟨m, wt⟩ H hq ⟨bs', es', Y, rfl, hlo', ⟨t, ht⟩, hcl'⟩
          obtain ⟨hm, _⟩ := nbs_in p hw.2 hcm _ (List.mem_of_getElem? hq)
          dsimp only at hm ⊢
          have hrow := loH_get p bs' es' g X (loR p c n X.length .ready) Y (j := 3) (by simp [loR])
          have hml : m < bs'.length := by rw [hlo'.len]; omega
          have hgb := bv_get hml
          have q1 : (m : Int) < 256 := by omega
          have q0 : (0 : Int) ≤ m := by omega
          have q2 : m + 1 ≤ (bv bs').length := by rw [bv_len]; omega
          have hset := bv_set hml
          have hle' := hlo'.le
          cases hb : bs'.getD m false with
          | true =>
            refine RoundW.mono (R := fun v H' => v = .bool true ∧ H' = loH p bs' es' g X (loR p c n X.length .ready) Y) ?_ ?_
            rotate_left
            · rintro v H' ⟨rfl, rfl⟩
              refine .inl ⟨rfl, bs', es', Y, rfl, hlo', ⟨t, ht⟩, fun j hj q hjq => ?_⟩
              by_cases e : j = k
              · subst e; rw [hq] at hjq; cases hjq; exact (hlo'.iff m).1 hb
              · exact hcl' j (by omega) q hjq
            generalize hR : (fun (v : AVal) (H' : Heap) => v = .bool true ∧ H' = loH p bs' es' g X (loR p c n X.length .ready) Y) = R
            have hfin : R (.bool true) (loH p bs' es' g X (loR p c n X.length .ready) Y) := by rw [← hR]; exact ⟨rfl, rfl⟩
            clear hR
            rw [hb] at hgb
            refine roundW_run 500 k_field_loose_r18.eq_1 hrow rfl (ρ' := tsets 56 (loT n X.length ++ [(38, .int .i64 (m : Int)), (39, .int .i64 wt)])) rfl ?_
            simp only [go_sem, loT]
            refine roundMid_run 500 k_field_loose_r19.eq_1 hrow (loH_put _ _ _ _ _ _ _ _ _ _ _) ?_
            have hrow2 := fun Z => loH_get p bs' es' g X [some (.cells false 4 [p.v]), some (.cells false 1 [.int .i64 c]), some .dfr, some (loL n X.length .busy none)] Z (j := 3) (by simp)
            simp only [loH, loF] at hrow2 ⊢
            simp only [go_sem, hgb, q0, q1, Nat.mul_one]
            refine roundEnd_on (hrow2 Y) ?_
            show R _ (Heap.put (loH p bs' es' g X [some (.cells false 4 [p.v]), some (.cells false 1 [.int .i64 c]), some .dfr, some (loL n X.length .busy none)] Y) (X.length + 8) (loL n X.length .ready none))
            rw [loH_put]
            exact hfin
          | false =>
            have hadd := hlo'.add hp hm hb
            refine RoundW.mono (R := fun v H' => v = .bool true ∧ ∃ Z, H' = loH p (bs'.set m true) (es' ++ [m]) g X (loR p c n X.length .ready) Z) ?_ ?_
            rotate_left
            · rintro v H' ⟨rfl, Z, rfl⟩
              refine .inl ⟨rfl, _, _, Z, rfl, hadd, ⟨t ++ [m], by rw [ht, List.append_assoc]⟩, fun j hj q hjq => ?_⟩
              by_cases e : j = k
              · subst e; rw [hq] at hjq; cases hjq; simp
              · exact List.mem_append_left _ (hcl' j (by omega) q hjq)
            generalize hR : (fun (v : AVal) (H' : Heap) => v = .bool true ∧ ∃ Z, H' = loH p (bs'.set m true) (es' ++ [m]) g X (loR p c n X.length .ready) Z) = R
            have hfin : ∀ Z, R (.bool true) (loH p (bs'.set m true) (es' ++ [m]) g X (loR p c n X.length .ready) Z) := fun Z => by rw [← hR]; exact ⟨rfl, Z, rfl⟩
            clear hR
            rw [hb] at hgb
            refine roundW_run 500 k_field_loose_r18.eq_1 hrow rfl (ρ' := tsets 56 (loT n X.length ++ [(38, .int .i64 (m : Int)), (39, .int .i64 wt)])) rfl ?_
            simp only [go_sem, loT]
            refine roundMid_run 500 k_field_loose_r19.eq_1 hrow (loH_put _ _ _ _ _ _ _ _ _ _ _) ?_
            have hrow2 := fun Z => loH_get p (bs'.set m true) (es' ++ [m]) g X [some (.cells false 4 [p.v]), some (.cells false 1 [.int .i64 c]), some .dfr, some (loL n X.length .busy none)] Z (j := 3) (by simp)
            have hput := fun Z => loH_put p (bs'.set m true) (es' ++ [m]) g (some (.cells false 4 [p.v])) (some (.cells false 1 [.int .i64 c])) (some .dfr) (some (loL n X.length .busy none)) X Z (loL n X.length .ready none)
            simp only [loH, loF, List.length_append, List.length_cons, List.length_nil, Nat.zero_add] at hrow2 hput hfin ⊢
            simp only [go_sem, hgb, q0, q1, q2, hset, Nat.mul_one, nv_app, nv_len]
            exact ⟨by omega, roundEnd_on (hrow2 _) (Eq.mpr (congrArg (R (.bool true)) (hput (Y ++ [some (.cells false 1 [.int .i64 m])]))) (hfin (Y ++ [some (.cells false 1 [.int .i64 m])])))⟩
      · rintro v H' ⟨rfl, ⟨bs', es', Y, rfl, hlo', ⟨t, ht⟩, hcl'⟩ | h⟩
        · have hle' := hlo'.le
          have hn' : n < es'.length := by rw [ht, List.length_append]; omega
          have h3 := idx_next h1 (by omega)
          rw [hl]
          refine ⟨fun q hq => ?_, _, _, _, _, _, _, _, loH_get p bs' es' g X (loR p c n X.length .ready) Y (j := 3) (by simp [loR]), by decide, ?_⟩
          · rcases List.mem_cons.1 hq with rfl | hq
            · exact loH_get p bs' es' g X (loR p c n X.length .ready) Y (j := 2) (by simp [loR])
            · obtain ⟨k, rfl, hk⟩ := hms2 q hq
              rw [loH_old _ _ _ _ _ _ _ (List.getElem?_eq_some_iff.1 hk).1]; exact hk
          · show Run Try.prog G 0 none 2000 (.out .normal) _ ⟨_, (loH p bs' es' g X (loR p c n X.length .ready) Y).set (X.length + 8) none, _⟩ _
            unfold loR
            rw [loH_set]
            simp only [go_sem, loT, tsets, h3]
            have ihn := ih (n + 1, bs', es', (X ++ (([some (.cells false 4 [p.v]), some (.cells false 1 [.int .i64 c]), some .dfr, none] : Heap) ++ Y) : Heap), (X.length + 7) :: ms) (by dsimp only; omega)
            refine ihn ⟨hn', fun h => by
              have h' : es' = [] := h
              rw [h'] at hn'; simp at hn', hlo', fun m hm q hq => ?_, ?_, fun q hq => ?_⟩ _ (by simp [go_sem])
            · dsimp only at hm hq ⊢
              by_cases e : m = n
              · subst e
                have hcc : es'.getD m 0 = c := by
                  rw [ht, List.getD_eq_getElem?_getD, List.getElem?_append_left h1, List.getElem?_eq_getElem h1, ← hc]; rfl
                rw [hcc] at hq
                obtain ⟨j, hj, rfl⟩ := List.mem_iff_getElem.1 hq
                exact hcl' j hj _ (List.getElem?_eq_getElem hj)
              · have hgd : es'.getD m 0 = es.getD m 0 := by
                  rw [ht, List.getD_eq_getElem?_getD, List.getElem?_append_left (by omega), List.getD_eq_getElem?_getD]
                rw [hgd] at hq
                rw [ht]
                exact List.mem_append_left _ (hcl m (by omega) q hq)
            · refine List.nodup_cons.2 ⟨fun h => ?_, hms1⟩
              obtain ⟨k, hk1, hk2⟩ := hms2 _ h
              have := (List.getElem?_eq_some_iff.1 hk2).1
              omega
            · dsimp only at hq ⊢
              rcases List.mem_cons.1 hq with rfl | hq
              · refine ⟨X.length + 2, rfl, ?_⟩
                rw [List.getElem?_append_right (by omega)]
                simp
              · obtain ⟨k, hk1, hk2⟩ := hms2 q hq
                exact ⟨k, hk1, by rw [List.getElem?_append_left (List.getElem?_eq_some_iff.1 hk2).1]; exact hk2⟩
        · exact h.elim
    · have h2 : ¬ (n : Int) < es.length := by omega
      have hall := grid_conn p (fun c => c ∈ es) (by
        obtain ⟨c, cs, rfl⟩ := List.exists_cons_of_ne_nil hne
        exact ⟨c, hlo.mem c (by simp), by simp⟩) (fun i hi hS q hq => by
        obtain ⟨m, hm, rfl⟩ := List.mem_iff_getElem.1 hS
        refine hcl m (by omega) q ?_
        rw [List.getD_eq_getElem?_getD, List.getElem?_eq_getElem hm]; exact hq)
      have hfull := hlo.full hp hall
      have h3 : ¬ (es.length : Int) < p.cs.length := by omega
      simp only [go_sem, loF, h2, Pl.v, Pl.a, Pl.c4, vw, List.length_map, h3, nv_len]
      exact hms1
end Go.Proofs

namespace Go.Proofs
open Go Go.Sx
attribute [local irreducible] Run

theorem PlOK.max {p : Pl} (hp : PlOK p) : 1 ≤ gmax p.cs ∧ gmax p.cs ≤ 6 ∧ ∀ c ∈ p.cs, c ≤ gmax p.cs := by
  have h1 := (mxL_ge p.cs 0).2
  obtain ⟨i, hi, hE⟩ := hp.some
  have h2 := hp.cell _ (hp.mem hi)
  have h3 := h1 _ (hp.mem hi)
  have h4 : gt p.cs i ≠ 0 := hE
  refine ⟨by unfold gmax; omega, mxL_le _ _ _ (by omega) fun c hc => (hp.cell c hc).2, h1⟩

theorem PlOK.ne {p : Pl} (hp : PlOK p) : p.cs ≠ [] := fun h => by
  have h1 := hp.len
  have h2 := Nat.mul_pos hp.w.1 hp.h.1
  rw [h] at h1
  simp only [List.length_nil] at h1
  omega

theorem Check_ok {p : Pl} (hp : PlOK p) : Ans Try.prog n_field_Check [p.v] [] (.int .i64 0) [] := by
  have hw := hp.w; have hh := hp.h
  have hN : p.w * p.h ≤ 256 := Nat.mul_le_mul hw.2 hh.2
  have hlen := hp.len
  obtain ⟨m1, m2, m3⟩ := hp.max
  have hmx := max_ok (l := p.cs) hp.ne (fun c hc => (hp.cell c hc).1) (by omega)
  have hlo := loose_ok hp
  refine spec_run e_field_Check fun G => ?_
  have e1 : (p.cs.length : Int) = (p.w : Int) * p.h := by rw [hlen]; push_cast; rfl
  have e2 : IntKind.i64.wrap ((p.w : Int) * p.h) = p.cs.length := by rw [← e1]; exact w64 (by omega)
  have e3 : ((p.cs.length : Int) != p.cs.length) = false := by simp
  have e4 : (gmax p.cs == 0) = false := by simp; omega
  simp only [go_sem, Pl.v, Pl.a, Pl.c4, vw]
  refine cP (within_yes (by omega)) ?_
  simp only [go_sem]
  refine cP (within_yes (by omega)) ?_
  simp only [go_sem, List.length_map, e2, e3]
  refine loop_ind k_field_Check_r11.eq_1 (fun a : Nat × Heap => a.1 ≤ p.cs.length) (fun a => p.cs.length - a.1)
    (fun a => (tsets 41 [(1, .ptr 0 0 0 1), (2, .int .i64 0), (25, vw p.cs), (26, .int .i64 p.cs.length), (27, .int .i64 a.1)], some (.cells false 4 [p.v]) :: a.2)) (0, []) (Nat.zero_le _) (by simp [go_sem, vw]) (by simp [Pl.v, Pl.a, Pl.c4, vw]) ?_
  rintro ⟨i, X⟩ hi ih
  dsimp only at hi ih ⊢
  by_cases h1 : i < p.cs.length
  · have h2 : (i : Int) < p.cs.length := by omega
    have h3 := idx_next h1 (by omega)
    have n0 : ¬ (i : Int) < 0 := by omega
    have hx := gt_get h1
    have hb := hp.cell _ (gt_mem h1)
    generalize gt p.cs i = z at *
    simp only [go_sem, vw, List.length_map, h2, n0, hx]
    refine cP (within_yes hb) ?_
    simp only [go_sem, h3]
    exact ih (i + 1, _) (by dsimp only; omega) h1 _ (by simp [go_sem, vw])
  · have h2 : ¬ (i : Int) < p.cs.length := by omega
    simp only [go_sem, vw, List.length_map, h2, Pl.v, Pl.a, Pl.c4]
    refine cP hmx ?_
    simp only [go_sem, e4, Pl.v, Pl.a, Pl.c4, vw]
    refine cP hlo ?_
    simp only [go_sem]

theorem VLen_of {p : Pl} (hp : PlOK p) {v : List Int} (h : (v.length : Int) = gmax p.cs) : VLen p v := fun c hc => by rw [h]; exact hp.max.2.2 c hc

end Go.Proofs

namespace Go.Proofs
open Go Go.Sx

section
variable {P : Program} {G : Ctx} {k : Nat} {rd : Option Nat} {fs : List Sx.Frame} {Q : Sx.Goal}
theorem opA_less {ao : AOper} {s s' : St} {K : St → Prop} (hl : Less P G k s s') (h : OpA P G k rd ao s' K) : OpA P G k rd ao s K := fun ops draw i o Q hi hc μ ro a w h1 h2 => by
  obtain ⟨μ', h3, h4⟩ := hl μ a w h2
  exact wpOpIn_mono (fun _ _ ⟨μ'', s'', q1, q2, q3⟩ => ⟨μ'', s'', q1, Mu.leB_trans h4 q2, q3⟩) (h ops draw i o Q hi hc μ' ro a w (h1.mono h4) h3)
theorem areg_cut (n : Nat) {l1 l2 : List AOper} {s : St} {K : St → Prop} (h : Sx.Run P G k rd n (.ops l1) [] s (fun _ s' => Areg P G k rd l2 s' K)) : Areg P G k rd (l1 ++ l2) s K := by
  have h1 : Areg P G k rd l1 s (fun s' => Areg P G k rd l2 s' K) := run_mean n _ _ _ _ h
  clear h
  induction l1 generalizing s with
  | nil => exact h1
  | cons a l ih => exact OpA.mono (fun s' hs => ih hs) h1
theorem areg_wk {ao : AOper} {l : List AOper} {ρ ρ' : List AVal} {H : Heap} {ms : List Nat} {K : St → Prop} (hw : Wk ρ ρ') (h : Areg P G k rd (ao :: l) ⟨ρ', H, ms⟩ K) : Areg P G k rd (ao :: l) ⟨ρ, H, ms⟩ K := opA_less (less_wk hw) h
theorem areg_last (n : Nat) {l : List AOper} {s : St} (h : Sx.Run P G k rd n (.ops l) fs s Q) : Areg P G k rd l s (Sx.Fin P G k rd fs Q .normal) := run_mean n _ _ _ _ h
theorem run0_ops {l : List AOper} {s : St} (h : Areg P G k rd l s (Sx.Fin P G k rd fs Q .normal)) : Sx.Run P G k rd 0 (.ops l) fs s Q := h
end
attribute [local irreducible] Run

theorem One_ok (w n : Int) (hn : 1 ≤ n ∧ n ≤ 1000000) : Ans Try.prog n_kit_Dice_One [.ptr 0 0 0 1, .int .i64 n] [some (Dr w)] (.bool (upto w n == 0)) [some (Dr (dstep w))] := by
  refine spec_run e_kit_Dice_One fun G => ?_
  simp only [go_sem]
  refine cD (upto_ok w n (by omega)) ?_
  simp only [go_sem]
  exact ⟨_, rfl⟩

def VolsOf (p : Pl) (v : List Int) : Prop := (v.length : Int) = min 8 (gmax p.cs) ∧ VOK v

end Go.Proofs

namespace Go.Proofs
open Go Go.Sx
attribute [local irreducible] Run

theorem areg_wk' {P : Program} {G : Ctx} {k : Nat} {rd : Option Nat} {l : List AOper} {ρ ρ' : List AVal} {H : Heap} {ms : List Nat} {K : St → Prop} (hl : l ≠ []) (hw : Wk ρ ρ') (h : Areg P G k rd l ⟨ρ', H, ms⟩ K) : Areg P G k rd l ⟨ρ, H, ms⟩ K := by
  cases l with
  | nil => exact absurd rfl hl
  | cons a l => exact areg_wk hw h

def opA0 : List AOper := k_kit_Opened_r7.take 14
def opA1 : List AOper := (k_kit_Opened_r7.drop 14).take 11
def opA2 : List AOper := (k_kit_Opened_r7.drop 25).take 14
def opA3 : List AOper := (k_kit_Opened_r7.drop 39).take 15
def opA4 : List AOper := (k_kit_Opened_r7.drop 54).take 19
def opA5 : List AOper := k_kit_Opened_r7.drop 73
theorem opA_eq : k_kit_Opened_r7 = opA0 ++ (opA1 ++ (opA2 ++ (opA3 ++ (opA4 ++ opA5)))) := rfl

def opB (n i x : Nat) (rd : Int) : List (Nat × AVal) := [(1, .ptr 1 0 0 1), (2, .ptr 2 0 0 1), (3, .sl 3 0 n), (4, .int .i64 rd), (5, .int .i64 i), (6, .int .i64 x)]
def opC (n i x : Nat) (rd : Int) (t : Nat) (b : Bool) : List AVal := tsets 121 (opB n i x rd ++ [(30, .sl 3 0 n), (31, .int .i64 i), (t, .bool b)])
def opH (p : Pl) (g : Bool) (bs : List Bool) : Heap := [some (.cells g 1 (iv p.cs)), some (.cells false 4 [p.a (.sl 0 0 p.cs.length)]), some (.cells false 4 [.agg [.int .i64 0, .int .i64 0, .bool false, .nilsl]]), some (.cells false 1 (bv bs))]

section
variable {G : Ctx} {k : Nat} {p : Pl} (hlen : p.cs.length = p.w * p.h) (hn : p.cs.length ≤ 1000000) {g : Bool} {bs : List Bool} (hb : bs.length = p.cs.length) {i : Nat} (hi : i < p.cs.length) {rd : Int} {K : St → Prop} {R : List AOper}
include hlen hn hb hi

omit hn in
theorem op_0 (h : ∀ b, Areg Try.prog G k none (opA1 ++ R) ⟨opC p.cs.length i (i % p.w) rd 43 b, opH p g bs, []⟩ K) :
    Areg Try.prog G k none (opA0 ++ (opA1 ++ R)) ⟨tsets 121 (opB p.cs.length i (i % p.w) rd), opH p g bs, []⟩ K := by
  refine areg_cut 200 ?_
  have h2 : (i : Int) < p.cs.length := by omega
  have n0 : ¬ (i : Int) < 0 := by omega
  have hg := bv_get (bs := bs) (c := i) (by omega)
  have hc := iv_get (l := p.cs) hi
  have fin : ∀ b ρ', Wk ρ' (opC p.cs.length i (i % p.w) rd 43 b) → Areg Try.prog G k none (opA1 ++ R) ⟨ρ', opH p g bs, []⟩ K := fun b ρ' hw => areg_wk' (List.cons_ne_nil _ _) hw (h b)
  clear h
  generalize bs.getD i false = b0 at *
  generalize gt p.cs i = z at *
  generalize opA1 ++ R = L at *
  cases b0 with
  | true =>
    simp only [opA0, k_kit_Opened_r7, List.take_succ_cons, List.take_zero, opB, opH, go_sem, h2, n0, hg]
    exact fin _ _ (by simp [opC, opB, go_sem] <;> rfl)
  | false =>
    simp only [opA0, k_kit_Opened_r7, List.take_succ_cons, List.take_zero, opB, opH, go_sem, h2, n0, hg, hc, Pl.a, Pl.c4, iv_len]
    exact fin _ _ (by simp [opC, opB, go_sem] <;> rfl)

theorem op_1 {b : Bool} (h : ∀ b', Areg Try.prog G k none (opA2 ++ R) ⟨opC p.cs.length i (i % p.w) rd 54 b', opH p g bs, []⟩ K) :
    Areg Try.prog G k none (opA1 ++ (opA2 ++ R)) ⟨opC p.cs.length i (i % p.w) rd 43 b, opH p g bs, []⟩ K := by
  refine areg_cut 200 ?_
  have fin : ∀ b' ρ', Wk ρ' (opC p.cs.length i (i % p.w) rd 54 b') → Areg Try.prog G k none (opA2 ++ R) ⟨ρ', opH p g bs, []⟩ K := fun b' ρ' hw => areg_wk' (List.cons_ne_nil _ _) hw (h b')
  clear h
  generalize opA2 ++ R = L at *
  cases b with
  | true =>
    simp only [opA1, k_kit_Opened_r7, List.take_succ_cons, List.take_zero, List.drop_succ_cons, List.drop_zero, opC, List.cons_append, List.nil_append, opB, opH, go_sem]
    exact fin _ _ (by simp [opC, opB, go_sem] <;> rfl)
  | false =>
    by_cases hc : 0 < i % p.w
    · have h1 : (0 : Int) < ((i % p.w : Nat) : Int) := by omega
      have hle := Nat.mod_le i p.w
      have e1 : IntKind.i64.wrap ((i : Int) - 1) = ((i - 1 : Nat) : Int) := by rw [w64 (by omega)]; omega
      have n0 : ¬ ((i - 1 : Nat) : Int) < 0 := by omega
      have h2 : ((i - 1 : Nat) : Int) < p.cs.length := by omega
      have hg := bv_get (bs := bs) (c := i - 1) (by omega)
      simp only [opA1, k_kit_Opened_r7, List.take_succ_cons, List.take_zero, List.drop_succ_cons, List.drop_zero, opC, List.cons_append, List.nil_append, opB, opH, go_sem, Pl.a, Pl.c4, iv_len, h1, e1, n0, h2, hg]
      exact fin _ _ (by simp [opC, opB, go_sem] <;> rfl)
    · have h1 : ¬ (0 : Int) < ((i % p.w : Nat) : Int) := by omega
      simp only [opA1, k_kit_Opened_r7, List.take_succ_cons, List.take_zero, List.drop_succ_cons, List.drop_zero, opC, List.cons_append, List.nil_append, opB, opH, go_sem, Pl.a, Pl.c4, iv_len, h1]
      exact fin _ _ (by simp [opC, opB, go_sem] <;> rfl)

theorem op_2 {b : Bool} (h : ∀ b', Areg Try.prog G k none (opA3 ++ R) ⟨opC p.cs.length i (i % p.w) rd 68 b', opH p g bs, []⟩ K) :
    Areg Try.prog G k none (opA2 ++ (opA3 ++ R)) ⟨opC p.cs.length i (i % p.w) rd 54 b, opH p g bs, []⟩ K := by
  refine areg_cut 200 ?_
  have fin : ∀ b' ρ', Wk ρ' (opC p.cs.length i (i % p.w) rd 68 b') → Areg Try.prog G k none (opA3 ++ R) ⟨ρ', opH p g bs, []⟩ K := fun b' ρ' hw => areg_wk' (List.cons_ne_nil _ _) hw (h b')
  clear h
  generalize opA3 ++ R = L at *
  have hw0 : 0 < p.w := by
    rcases Nat.eq_zero_or_pos p.w with h0 | h0
    · rw [h0, Nat.zero_mul] at hlen; omega
    · exact h0
  have hwn : p.w ≤ 1000000 := by
    have h1 : p.w * 1 ≤ p.w * p.h := Nat.mul_le_mul_left _ (by
      rcases Nat.eq_zero_or_pos p.h with h0 | h0
      · rw [h0, Nat.mul_zero] at hlen; omega
      · exact h0)
    omega
  have e0 : IntKind.i64.wrap ((p.w : Int) - 1) = ((p.w - 1 : Nat) : Int) := by rw [w64 (by omega)]; omega
  cases b with
  | true =>
    simp only [opA2, k_kit_Opened_r7, List.take_succ_cons, List.take_zero, List.drop_succ_cons, List.drop_zero, opC, List.cons_append, List.nil_append, opB, opH, go_sem]
    exact fin _ _ (by simp [opC, opB, go_sem] <;> rfl)
  | false =>
    by_cases hc : i % p.w + 1 < p.w
    · have h1 : ((i % p.w : Nat) : Int) < ((p.w - 1 : Nat) : Int) := by omega
      have hi1 : i + 1 < p.cs.length := by
        rw [hlen]
        obtain ⟨k1, k2, k3⟩ := cell_lt (w := p.w) (h := p.h) (i := i) (by omega)
        have := cell_in (w := p.w) (h := p.h) hc k2
        omega
      have e1 : IntKind.i64.wrap ((i : Int) + 1) = ((i + 1 : Nat) : Int) := by rw [w64 (by omega)]; rfl
      have n0 : ¬ ((i + 1 : Nat) : Int) < 0 := by omega
      have h2 : ((i + 1 : Nat) : Int) < p.cs.length := by omega
      have hg := bv_get (bs := bs) (c := i + 1) (by omega)
      simp only [opA2, k_kit_Opened_r7, List.take_succ_cons, List.take_zero, List.drop_succ_cons, List.drop_zero, opC, List.cons_append, List.nil_append, opB, opH, go_sem, Pl.a, Pl.c4, iv_len, h1, e0, e1, n0, h2, hg]
      exact fin _ _ (by simp [opC, opB, go_sem] <;> rfl)
    · have h1 : ¬ ((i % p.w : Nat) : Int) < ((p.w - 1 : Nat) : Int) := by omega
      simp only [opA2, k_kit_Opened_r7, List.take_succ_cons, List.take_zero, List.drop_succ_cons, List.drop_zero, opC, List.cons_append, List.nil_append, opB, opH, go_sem, Pl.a, Pl.c4, iv_len, h1, e0]
      exact fin _ _ (by simp [opC, opB, go_sem] <;> rfl)

theorem op_3 {b : Bool} (h : ∀ b', Areg Try.prog G k none (opA4 ++ R) ⟨opC p.cs.length i (i % p.w) rd 83 b', opH p g bs, []⟩ K) :
    Areg Try.prog G k none (opA3 ++ (opA4 ++ R)) ⟨opC p.cs.length i (i % p.w) rd 68 b, opH p g bs, []⟩ K := by
  refine areg_cut 200 ?_
  have fin : ∀ b' ρ', Wk ρ' (opC p.cs.length i (i % p.w) rd 83 b') → Areg Try.prog G k none (opA4 ++ R) ⟨ρ', opH p g bs, []⟩ K := fun b' ρ' hw => areg_wk' (List.cons_ne_nil _ _) hw (h b')
  clear h
  generalize opA4 ++ R = L at *
  cases b with
  | true =>
    simp only [opA3, k_kit_Opened_r7, List.take_succ_cons, List.take_zero, List.drop_succ_cons, List.drop_zero, opC, List.cons_append, List.nil_append, opB, opH, go_sem]
    exact fin _ _ (by simp [opC, opB, go_sem] <;> rfl)
  | false =>
    by_cases hc : p.w ≤ i
    · have h1 : (p.w : Int) ≤ i := by omega
      have e1 : IntKind.i64.wrap ((i : Int) - p.w) = ((i - p.w : Nat) : Int) := by rw [w64 (by omega)]; omega
      have n0 : ¬ ((i - p.w : Nat) : Int) < 0 := by omega
      have h2 : ((i - p.w : Nat) : Int) < p.cs.length := by omega
      have hg := bv_get (bs := bs) (c := i - p.w) (by omega)
      simp only [opA3, k_kit_Opened_r7, List.take_succ_cons, List.take_zero, List.drop_succ_cons, List.drop_zero, opC, List.cons_append, List.nil_append, opB, opH, go_sem, Pl.a, Pl.c4, iv_len, h1, e1, n0, h2, hg]
      exact fin _ _ (by simp [opC, opB, go_sem] <;> rfl)
    · have h1 : ¬ (p.w : Int) ≤ i := by omega
      simp only [opA3, k_kit_Opened_r7, List.take_succ_cons, List.take_zero, List.drop_succ_cons, List.drop_zero, opC, List.cons_append, List.nil_append, opB, opH, go_sem, Pl.a, Pl.c4, iv_len, h1]
      exact fin _ _ (by simp [opC, opB, go_sem] <;> rfl)

theorem op_4 {b : Bool} (h : ∀ b', Areg Try.prog G k none (opA5 ++ R) ⟨opC p.cs.length i (i % p.w) rd 102 b', opH p g bs, []⟩ K) :
    Areg Try.prog G k none (opA4 ++ (opA5 ++ R)) ⟨opC p.cs.length i (i % p.w) rd 83 b, opH p g bs, []⟩ K := by
  refine areg_cut 200 ?_
  have fin : ∀ b' ρ', Wk ρ' (opC p.cs.length i (i % p.w) rd 102 b') → Areg Try.prog G k none (opA5 ++ R) ⟨ρ', opH p g bs, []⟩ K := fun b' ρ' hw => areg_wk' (List.cons_ne_nil _ _) hw (h b')
  clear h
  generalize opA5 ++ R = L at *
  have hwn : p.w ≤ 1000000 := by
    have h1 : p.w * 1 ≤ p.w * p.h := Nat.mul_le_mul_left _ (by
      rcases Nat.eq_zero_or_pos p.h with h0 | h0
      · rw [h0, Nat.mul_zero] at hlen; omega
      · exact h0)
    omega
  have e1 : IntKind.i64.wrap ((i : Int) + p.w) = ((i + p.w : Nat) : Int) := by rw [w64 (by omega)]; omega
  cases b with
  | true =>
    simp only [opA4, k_kit_Opened_r7, List.take_succ_cons, List.take_zero, List.drop_succ_cons, List.drop_zero, opC, List.cons_append, List.nil_append, opB, opH, go_sem]
    exact fin _ _ (by simp [opC, opB, go_sem] <;> rfl)
  | false =>
    by_cases hc : i + p.w < p.cs.length
    · have h1 : ((i + p.w : Nat) : Int) < p.cs.length := by omega
      have n0 : ¬ ((i + p.w : Nat) : Int) < 0 := by omega
      have hg := bv_get (bs := bs) (c := i + p.w) (by omega)
      simp only [opA4, k_kit_Opened_r7, List.take_succ_cons, List.take_zero, List.drop_succ_cons, List.drop_zero, opC, List.cons_append, List.nil_append, opB, opH, go_sem, Pl.a, Pl.c4, iv_len, h1, e1, n0, hg]
      exact fin _ _ (by simp [opC, opB, go_sem] <;> rfl)
    · have h1 : ¬ ((i + p.w : Nat) : Int) < p.cs.length := by omega
      simp only [opA4, k_kit_Opened_r7, List.take_succ_cons, List.take_zero, List.drop_succ_cons, List.drop_zero, opC, List.cons_append, List.nil_append, opB, opH, go_sem, Pl.a, Pl.c4, iv_len, h1, e1]
      exact fin _ _ (by simp [opC, opB, go_sem] <;> rfl)

theorem op_all (h : ∀ b, Areg Try.prog G k none opA5 ⟨opC p.cs.length i (i % p.w) rd 102 b, opH p g bs, []⟩ K) : Areg Try.prog G k none k_kit_Opened_r7 ⟨tsets 121 (opB p.cs.length i (i % p.w) rd), opH p g bs, []⟩ K := by
  rw [opA_eq]
  refine op_0 hlen hb hi fun b => ?_
  refine op_1 hlen hn hb hi fun b => ?_
  refine op_2 hlen hn hb hi fun b => ?_
  refine op_3 hlen hn hb hi fun b => ?_
  have := op_4 (R := []) hlen hn hb hi (K := K) (G := G) (k := k) (g := g) (rd := rd) (b := b) fun b => by rw [List.append_nil]; exact h b
  rwa [List.append_nil] at this
end

section
variable {P : Program} {G : Ctx} {k : Nat} {rd : Option Nat} {fs : List Sx.Frame} {ms : List Nat} {Q : Sx.Goal}
theorem loop_indN (n : Nat) {α : Type} {c c' : ACode} (hc : c = c') (Inv : α → Prop) (μ : α → Nat) (st : α → List AVal × Heap) {ρ : List AVal} {H : Heap} (a0 : α) (h0 : Inv a0) (hw : Wk ρ (st a0).1) (hH : H = (st a0).2)
    (step : ∀ a, Inv a → (∀ b, μ b < μ a → Inv b → ∀ ρ', Wk ρ' (st b).1 → Sx.Loop P G k rd c fs ⟨ρ', (st b).2, ms⟩ Q) → Run P G k rd n (.code c') (.rnd c :: fs) ⟨(st a).1, (st a).2, ms⟩ Q) : Sx.Loop P G k rd c fs ⟨ρ, H, ms⟩ Q := by
  have key : ∀ (m : Nat) (a : α), μ a = m → Inv a → ∀ ρ', Wk ρ' (st a).1 → Sx.Loop P G k rd c fs ⟨ρ', (st a).2, ms⟩ Q := by
    intro m
    induction m using Nat.strongRecOn with
    | ind m ih =>
      intro a ha hi ρ' hw
      exact loop_wk hw (loop_body n hc (step a hi fun b hb hib ρ'' hw'' => ih (μ b) (by omega) b rfl hib ρ'' hw''))
  subst hH
  exact key _ a0 rfl h0 ρ hw
end

def Opd (cs l : List Int) : Prop := l.length = cs.length ∧ ∀ i, i < cs.length → gt l i = gt cs i ∨ gt l i = 1

set_option maxHeartbeats 4000000 in
theorem Opened_ok {p : Pl} (hlen : p.cs.length = p.w * p.h) (hn : p.cs.length ≤ 1000000) (hw : 1 ≤ p.w) (g : Bool) : AnsE Try.prog n_kit_Opened [p.a (.sl 0 0 p.cs.length)] [some (.cells g 1 (iv p.cs))] (Opd p.cs) (fun _ => p.a (.sl 0 0 p.cs.length)) (fun l => [some (.cells g 1 (iv l))]) := by
  refine AnsE.keep (run_fn e_kit_Opened fun G => ?_) (fun a ha => ⟨by simp, by simp [go_sem, Pl.a, Pl.c4], iv_row _ _ _, trivial⟩)
  have q1 : (0 : Int) ≤ p.cs.length := by omega
  have q2 : (p.cs.length : Int) ≤ 2 ^ 44 := by omega
  have q3 : (p.cs.length : Int) * 1 ≤ 2 ^ 44 := by omega
  simp only [go_sem, Pl.a, Pl.c4, iv_len, q1, q2, q3, Int.toNat_natCast]
  refine ⟨Int.le_refl _, ?_⟩
  have hrep : List.replicate p.cs.length (AVal.bool false) = bv (List.replicate p.cs.length false) := by simp [bv]
  rw [hrep]
  have hOpd0 : Opd p.cs p.cs := ⟨rfl, fun i _ => .inl rfl⟩
  refine loop_ind k_kit_Opened_r11.eq_1 (fun a : Nat × List Bool => a.1 ≤ p.cs.length ∧ a.2.length = p.cs.length) (fun a => p.cs.length - a.1)
    (fun a => (tsets 121 [(1, .ptr 1 0 0 1), (2, .ptr 2 0 0 1), (3, .sl 3 0 p.cs.length), (4, .int .i64 a.1)], opH p g a.2)) (0, List.replicate p.cs.length false) ⟨Nat.zero_le _, by simp⟩ (by simp [go_sem]) rfl ?_
  rintro ⟨r, bs⟩ ⟨hr, hbs⟩ ih
  dsimp only at hr hbs ih ⊢
  by_cases h1 : r < p.cs.length
  · have h2 : (r : Int) < p.cs.length := by omega
    have h3 := idx_next h1 (by omega)
    simp only [opH, go_sem, Pl.a, Pl.c4, iv_len, h2]
    refine loop_indN 25 k_kit_Opened_r9.eq_1 (fun a : Nat × List Bool => a.1 ≤ p.cs.length ∧ a.2.length = p.cs.length) (fun a => p.cs.length - a.1)
      (fun a => (tsets 121 [(1, .ptr 1 0 0 1), (2, .ptr 2 0 0 1), (3, .sl 3 0 p.cs.length), (4, .int .i64 r), (5, .int .i64 a.1)], opH p g a.2)) (0, bs) ⟨Nat.zero_le _, hbs⟩ (by simp [go_sem]) rfl ?_
    rintro ⟨i, bs⟩ ⟨hi, hbs⟩ ih2
    dsimp only at hi hbs ih2 ⊢
    by_cases h4 : i < p.cs.length
    · have h5 : (i : Int) < p.cs.length := by omega
      have h6 := idx_next h4 (by omega)
      have hwz : ((p.w : Int) = 0) = False := eq_false (by omega)
      have e1 := nat_rem i p.w
      have ihn := fun b => ih2 (i + 1, bs.set i b) (by dsimp only; omega) ⟨h4, by simpa using hbs⟩
      clear ih2
      have hgb := bv_get (bs := bs) (c := i) (by omega)
      have hbset : ∀ b, (bv bs).set i (.bool b) = bv (bs.set i b) := fun b => by simp [bv, List.map_set]
      have n0 : ¬ (i : Int) < 0 := by omega
      simp only [opH, go_sem, Pl.a, Pl.c4, iv_len, h5, hwz, e1]
      refine run0_ops ?_
      show Areg Try.prog G 1 none k_kit_Opened_r7 ⟨_, opH p g bs, []⟩ _
      refine areg_wk' (List.cons_ne_nil _ _) (ρ' := tsets 121 (opB p.cs.length i (i % p.w) r)) (by simp [go_sem, opB]) ?_
      refine op_all hlen hn hbs h4 fun b => ?_
      refine areg_last 3000 ?_
      simp only [opA5, k_kit_Opened_r7, List.drop_succ_cons, List.drop_zero, opC, opB, opH, List.cons_append, List.nil_append, go_sem, h5, n0, hgb, hbset, bv_len, h6]
      exact ihn b _ (by simp [go_sem])
    · have h5 : ¬ (i : Int) < p.cs.length := by omega
      simp only [opH, go_sem, Pl.a, Pl.c4, iv_len, h5, h3]
      exact ih (r + 1, bs) (by dsimp only; omega) ⟨h1, hbs⟩ _ (by simp [go_sem])
  · have h2 : ¬ (r : Int) < p.cs.length := by omega
    simp only [opH, go_sem, Pl.a, Pl.c4, iv_len, h2]
    clear ih
    refine loop_ind k_kit_Opened_r17.eq_1 (fun a : Nat × List Int => a.1 ≤ p.cs.length ∧ Opd p.cs a.2) (fun a => p.cs.length - a.1)
      (fun a => (tsets 121 [(1, .ptr 1 0 0 1), (2, .ptr 2 0 0 1), (3, .sl 3 0 p.cs.length), (7, .int .i64 a.1)], [some (.cells g 1 (iv a.2)), some (.cells false 4 [p.a (.sl 0 0 p.cs.length)]), some (.cells false 4 [.agg [.int .i64 0, .int .i64 0, .bool false, .nilsl]]), some (.cells false 1 (bv bs))])) (0, p.cs) ⟨Nat.zero_le _, hOpd0⟩ (by simp [go_sem]) rfl ?_
    rintro ⟨i, l⟩ ⟨hi, hl⟩ ih
    dsimp only at hi hl ih ⊢
    by_cases h4 : i < p.cs.length
    · have h5 : (i : Int) < p.cs.length := by omega
      have h6 := idx_next h4 (by omega)
      have n0 : ¬ (i : Int) < 0 := by omega
      have hgb := bv_get (bs := bs) (c := i) (by omega)
      have hgl := iv_get (l := l) (i := i) (by rw [hl.1]; exact h4)
      have hl1 := hl.1
      have ihn := fun l' h => ih (i + 1, l') (by dsimp only; omega) ⟨h4, h⟩
      clear ih
      generalize bs.getD i false = b at *
      cases b with
      | true =>
        simp only [go_sem, Pl.a, Pl.c4, iv_len, hl1, h5, n0, hgb, h6]
        exact ihn l hl _ (by simp [go_sem])
      | false =>
        simp only [go_sem, Pl.a, Pl.c4, iv_len, hl1, h5, n0, hgb, hgl, iv_set, h6]
        refine ihn (l.set i 1) ⟨by rw [List.length_set]; exact hl1, fun j hj => ?_⟩ _ (by simp [go_sem])
        rw [gt_set _ _ _ _ (by rw [hl1]; exact h4)]
        split
        · exact .inr rfl
        · exact hl.2 j hj
    · have h5 : ¬ (i : Int) < p.cs.length := by omega
      have hl1 := hl.1
      simp only [go_sem, Pl.a, Pl.c4, iv_len, hl1, h5]
      refine ⟨l, hl, fun i => i, fun i hi => rfl, fun i k hi hk h => h, by simp [Pl.a, Pl.c4, ren, rens], fun i x hx => ?_⟩
      match i, hx with
      | 0, hx => simp at hx; subst hx; rw [Row.ren_same (iv_row _ _ _)]; rfl
end Go.Proofs

namespace Go.Proofs
open Go Go.Sx
attribute [local irreducible] Run

section
variable {P : Program} {G : Ctx} {g : FuncId} {args largs : List AVal} {H : Heap} {α : Type} {Φ : α → Prop} {r : α → AVal} {k : Nat} {rd : Option Nat} {R : Runner} {l : List AOper} {fs : List Sx.Frame} {ρ : List AVal} {ms : List Nat} {Q : Sx.Goal} {dst : Option Nat}
theorem cE1 {x0 : Row} {x' : α → Row} {j0 : Nat} (h : AnsE P g largs [some x0] Φ r fun a => [some (x' a)]) (hargs : args = largs.map (ren (nth [j0]))) (hb : Bels (· < 1) largs)
    (h0 : H[j0]? = some (some x0)) (hx0 : x0.bel (fun _ => False)) (hwf : ∀ a, Φ a → Bel (· < 1) (r a) ∧ (x' a).bel (fun _ => False)) (hk : k ≤ H.length) (hms : ∀ q ∈ ms, q ≠ j0 ∧ H[q]? = some (some .dfr))
    (hK : ∀ a, Φ a → R (.ops l) fs ⟨setD ρ dst (ren (fun _ => j0) (r a)), H.set j0 (some (x' a)), ms⟩ Q) : CallR P G k R g args dst l fs ρ H ms Q := by
  have hlt0 := (List.getElem?_eq_some_iff.1 h0).1
  have e : ∀ a, Φ a → outΔ (outσ [j0] H.length) 0 [some (x' a)] = [(j0, x' a)] := fun a ha => by
    simp only [outΔ, Row.ren_same (hwf a ha).2]
    rfl
  refine callE h [j0] (by simp) ⟨by rw [Row.ren_same hx0]; exact h0, trivial⟩ hargs hb ⟨bel_mono_row hx0 fun _ h => h.elim, trivial⟩
    (fun a ha => ⟨by simp, (hwf a ha).1.mono fun q hq => by simpa using hq, bel_mono_row (hwf a ha).2 fun _ h => h.elim, trivial⟩) (by simpa using hlt0) hk (fun a ha q hq => ?_) fun a ha => ?_
  · rw [e a ha]
    exact ⟨by simpa using (hms q hq).1, (hms q hq).2⟩
  · rw [e a ha]
    have e2 : ren (outσ [j0] H.length) (r a) = ren (fun _ => j0) (r a) := ren_agree (S := fun q => q < 1) (fun q hq => by
      have hq0 : q = 0 := by omega
      rw [hq0]; simp [outσ, nth]) (hwf a ha).1
    rw [e2]
    simp only [Heap.puts, put_lt hlt0]
    exact hK a ha
end

def plA (w h : Nat) (rd : Bool) (d : Int) : Heap := [some (Dr d), some (.cells false 4 [.agg [.int .i64 0, .int .i64 0, .bool false, .nilsl]]), some (.cells false 4 [.agg [.int .i64 w, .int .i64 h, .bool rd, .nilsl]])]
def plB (w h : Nat) (rd : Bool) (d : Int) (l : List Int) (g : Option Row) : Heap := [some (Dr d), some (.cells false 4 [.agg [.int .i64 0, .int .i64 0, .bool false, .nilsl]]), some (.cells false 4 [.agg [.int .i64 w, .int .i64 h, .bool rd, .sl 4 0 l.length]]), g, some (.cells true 1 (iv l))]
theorem iv_app (l : List Int) (c : Int) : iv l ++ [.int .i64 c] = iv (l ++ [c]) := by simp [iv]

structure PlMade (a b : Int) (p : Pl) : Prop where
  ok : PlOK p
  w : p.w ≤ a
  h : p.h ≤ b
  le : ∀ c ∈ p.cs, 0 ≤ c ∧ c ≤ 3
  first : 1 ≤ gt p.cs 0

def Cel (l : List Int) : Prop := ∀ c ∈ l, 0 ≤ c ∧ c ≤ 3
theorem Cel.snoc {l : List Int} {c : Int} (h : Cel l) (hc : 0 ≤ c ∧ c ≤ 3) : Cel (l ++ [c]) := fun d hd => by
  rcases List.mem_append.1 hd with hd | hd
  · exact h d hd
  · simp at hd; subst hd; exact hc

theorem made_of {w h : Nat} {rd : Bool} {a b : Int} {l l' : List Int} (hw : 1 ≤ w ∧ w ≤ 16 ∧ w ≤ a) (hh : 1 ≤ h ∧ h ≤ 16 ∧ h ≤ b) (hl : l.length = w * h) (hc : Cel l) (hf : 1 ≤ gt l 0) (ho : Opd l l') : PlMade a b ⟨w, h, rd, l'⟩ := by
  have hpos := Nat.mul_pos hw.1 hh.1
  have hce : ∀ c ∈ l', 0 ≤ c ∧ c ≤ 3 := fun c hcm => by
    obtain ⟨i, hi, rfl⟩ := List.mem_iff_getElem.1 hcm
    have hi' : i < l.length := by rw [← ho.1]; exact hi
    have e : gt l' i = l'[i] := by unfold gt; rw [List.getD_eq_getElem?_getD, List.getElem?_eq_getElem hi]; rfl
    rw [← e]
    rcases ho.2 i hi' with h | h
    · rw [h]; exact hc _ (gt_mem hi')
    · rw [h]; omega
  have hf' : 1 ≤ gt l' 0 := by
    rcases ho.2 0 (by omega) with h | h
    · rw [h]; exact hf
    · rw [h]; omega
  refine ⟨⟨⟨hw.1, hw.2.1⟩, ⟨hh.1, hh.2.1⟩, by rw [ho.1]; exact hl, fun c h => by have := hce c h; omega, 0, hpos, ?_⟩, hw.2.2, hh.2.2, hce, hf'⟩
  show gt l' 0 ≠ 0
  omega

set_option maxHeartbeats 4000000 in
theorem PlanOf_ok (w0 : Int) (a b : Int) (ha : 1 ≤ a ∧ a ≤ 16) (hb : 1 ≤ b ∧ b ≤ 16) : AnsE Try.prog n_kit_PlanOf [.ptr 0 0 0 1, .int .i64 a, .int .i64 b] [some (Dr w0)] (fun q : Int × Pl => PlMade a b q.2) (fun q => q.2.a (.sl 1 0 q.2.cs.length))
    (fun q => [some (Dr q.1), some (.cells true 1 (iv q.2.cs))]) := by
  refine AnsE.keep (run_fn e_kit_PlanOf fun G => ?_) (fun q hq => ⟨by simp, by simp [go_sem, Pl.a, Pl.c4], by simp only [go_sem], iv_row _ _ _, trivial⟩)
  have b1 := btw_in (w := w0) (show (1 : Int) ≤ a by omega)
  have b2 := btw_in (w := dstep w0) (show (1 : Int) ≤ b by omega)
  have t1 := between_ok w0 1 a (by omega) (by omega) (by omega)
  have t2 := between_ok (dstep w0) 1 b (by omega) (by omega) (by omega)
  have t3 := One_ok (dstep (dstep w0)) 2 (by omega)
  generalize btw w0 1 a = wi at *
  generalize btw (dstep w0) 1 b = hi at *
  generalize (upto (dstep (dstep w0)) 2 == 0) = rd at *
  obtain ⟨w, rfl⟩ : ∃ w : Nat, wi = w := ⟨wi.toNat, by omega⟩
  obtain ⟨h, rfl⟩ : ∃ h : Nat, hi = h := ⟨hi.toNat, by omega⟩
  have hN : w * h ≤ 256 := by have := Nat.mul_le_mul (show w ≤ 16 by omega) (show h ≤ 16 by omega); omega
  have hN1 : 1 ≤ w * h := Nat.mul_pos (by omega) (by omega)
  have em : IntKind.i64.wrap ((w : Int) * h) = ((w * h : Nat) : Int) := by rw [w64 (by push_cast at *; omega)]; push_cast; rfl
  simp only [go_sem]
  refine cD t1 ?_
  simp only [go_sem]
  refine cD t2 ?_
  simp only [go_sem]
  refine cD t3 ?_
  simp only [go_sem]
  generalize dstep (dstep (dstep w0)) = d0
  refine loop_ind k_kit_PlanOf_r9.eq_1 (fun q : Nat × Int × List Int × Heap => q.1 ≤ w * h ∧ q.2.2.1.length = q.1 ∧ Cel q.2.2.1 ∧ ((q.2.2.1 = [] ∧ q.2.2.2 = plA w h rd q.2.1) ∨ (q.2.2.1 ≠ [] ∧ ∃ g X, q.2.2.2 = plB w h rd q.2.1 q.2.2.1 g ++ X))) (fun q => w * h - q.1)
    (fun q => (tsets 48 [(0, .ptr 0 0 0 1), (6, .ptr 1 0 0 1), (7, .ptr 2 0 0 1), (8, .int .i64 q.1)], q.2.2.2)) (0, d0, [], plA w h rd d0) ⟨Nat.zero_le _, rfl, fun c hc => by simp at hc, .inl ⟨rfl, rfl⟩⟩ (by simp [go_sem]) rfl ?_
  rintro ⟨i, d, l, H⟩ ⟨hi, hl, hc, hH⟩ ih
  dsimp only at hi hl hc hH ih ⊢
  by_cases h1 : i < w * h
  · have h2 : (i : Int) < ((w * h : Nat) : Int) := by omega
    have h3 := idx_next h1 (by omega)
    have p1 := One_ok d 3 (by omega)
    have p2 := between_ok (dstep d) 1 3 (by omega) (by omega) (by omega)
    have p3 := btw_in (w := dstep d) (show (1 : Int) ≤ 3 by omega)
    generalize btw (dstep d) 1 3 = c at *
    have ihn := fun d' c' (hc' : 0 ≤ c' ∧ c' ≤ 3) g X => ih (i + 1, d', l ++ [c'], plB w h rd d' (l ++ [c']) g ++ X) (by dsimp only; omega) ⟨h1, by simp [hl], hc.snoc hc', .inr ⟨by simp, g, X, rfl⟩⟩
    clear ih
    simp only [plB, List.length_append, List.length_cons, List.length_nil, Nat.zero_add, List.cons_append, List.nil_append] at ihn
    rcases hH with ⟨rfl, rfl⟩ | ⟨hne, g, X, rfl⟩
    · simp only [List.length_nil, Nat.zero_add, List.nil_append] at ihn
      simp only [plA, go_sem, em, h2]
      refine cD p1 ?_
      cases hcase : (upto d 3 == 0) with
      | true =>
        simp only [go_sem]
        refine cD p2 ?_
        simp only [go_sem, h3]
        exact ⟨by decide, ihn _ c (by omega) _ [] _ (by simp [go_sem])⟩
      | false =>
        simp only [go_sem, h3]
        exact ⟨by decide, ihn _ 0 (by omega) _ [] _ (by simp [go_sem])⟩
    · simp only [plB, List.cons_append, List.nil_append, go_sem, em, h2]
      refine cD p1 ?_
      cases hcase : (upto d 3 == 0) with
      | true =>
        simp only [go_sem]
        refine cD p2 ?_
        simp only [go_sem, h3, iv_len, iv_app]
        exact ⟨by omega, ihn _ c (by omega) _ _ _ (by simp [go_sem])⟩
      | false =>
        simp only [go_sem, h3, iv_len, iv_app]
        exact ⟨by omega, ihn _ 0 (by omega) _ _ _ (by simp [go_sem])⟩
  · have h2 : ¬ (i : Int) < ((w * h : Nat) : Int) := by omega
    have hle : l.length = w * h := by omega
    have hne : l ≠ [] := fun h => by rw [h] at hle; simp at hle; omega
    obtain ⟨g, X, rfl⟩ : ∃ g X, H = plB w h rd d l g ++ X := by
      rcases hH with ⟨h, _⟩ | ⟨_, h⟩
      · exact absurd h hne
      · exact h
    have hg0 := iv_get (l := l) (i := 0) (by omega)
    have hl0 : (0 : Int) < l.length := by omega
    simp only [plB, List.cons_append, List.nil_append, go_sem, em, h2, iv_len, hg0, hl0]
    have hl0' : 0 < l.length := by omega
    have hc0 := hc _ (gt_mem hl0')
    have hmx : (1 : Int) ≤ (if gt l 0 > 1 then gt l 0 else 1) ∧ (if gt l 0 > 1 then gt l 0 else 1) ≤ 3 := by split <;> omega
    rw [iv_set]
    generalize (if gt l 0 > 1 then gt l 0 else 1) = m at *
    have hc1 : Cel (l.set 0 m) := fun c hcm => by
      rcases List.mem_or_eq_of_mem_set hcm with h | h
      · exact hc c h
      · subst h; omega
    have hf1 : 1 ≤ gt (l.set 0 m) 0 := by rw [gt_set _ _ _ _ hl0', if_pos rfl]; exact hmx.1
    have hl1 : (l.set 0 m).length = w * h := by rw [List.length_set]; exact hle
    have hll : l.length = (l.set 0 m).length := by simp
    rw [hll]
    generalize l.set 0 m = l1 at *
    have hO := Opened_ok (p := ⟨w, h, rd, l1⟩) hl1 (by show l1.length ≤ _; omega) (by show 1 ≤ w; omega) true
    refine cE1 hO (j0 := 4) rfl (by simp [go_sem, Pl.a, Pl.c4]) rfl (iv_row _ _ _) (fun a ha => ⟨by simp [go_sem, Pl.a, Pl.c4], iv_row _ _ _⟩) (by simp) (by simp) fun l' hl' => ?_
    simp only [go_sem, Pl.a, Pl.c4, ren, rens]
    refine ⟨(d, ⟨w, h, rd, l'⟩), made_of (by omega) (by omega) hl1 hc1 hf1 hl', ?_⟩
    refine kept_new (A := [some (Dr d)]) 1 4 rfl rfl (by omega) ?_ (fun i x hx => ?_) (iv_row _ _ _) rfl
    · simp only [Pl.a, Pl.c4, ren, rens, hl'.1]; rfl
    · match i, hx with
      | 0, hx => simp at hx; subst hx; exact ⟨dr_bel _ _, rfl⟩
end Go.Proofs

namespace Go.Proofs
open Go Go.Sx
def yes : Option (AVal × Heap) → Bool
  | some (.bool b, _) => b
  | _ => false
theorem yes_ans {P : Program} (hm : P.follows .mixedOrders = true) {tab : Nat → Option AFun} (hT : ∀ g af, tab g = some af → EntryOK P g af) {m n g : Nat} (h : yes (exFn tab m n g [] []) = true) : Ans P g [] [] (.bool true) [] := by
  match hx : exFn tab m n g [] [] with
  | none => rw [hx] at h; cases h
  | some (v, H') =>
    rw [hx] at h
    cases v <;> try (cases h; done)
    rename_i b
    have hb : b = true := h
    subst hb
    exact (spec_ex hm hT hx).mono fun v H'' hv => ⟨hv.1, H'', rfl⟩
theorem awake_yes : yes (exFn tab 3000 40 n_law01_awake [] []) = true := by kernel_rfl
theorem awake_ok : Ans Try.prog n_law01_awake [] [] (.bool true) [] := yes_ans mixed tab_ok awake_yes
end Go.Proofs

namespace Go.Proofs
open Go Go.Sx
attribute [local irreducible] Run

section
variable {P : Program} {G : Ctx} {g : FuncId} {args : List AVal} {H : Heap} {k : Nat} {rd : Option Nat} {R : Runner} {l : List AOper} {fs : List Sx.Frame} {ρ : List AVal} {ms : List Nat} {Q : Sx.Goal} {dst : Option Nat}
theorem cFN2 {x y : Row} {largs : List AVal} {r : AVal} (h : Ans P g largs [] r [some x, some y]) (d : Nat) (hargs : Sx.lss (args.map (frz d H)) largs) (hK : R (.ops l) fs ⟨setD ρ dst (ren (fun i => H.length + i) r), H ++ [some x, some y], ms⟩ Q) (hr : Bel (· < 2) r) (hnv : NV r)
    (hx : x.bel (fun _ => False)) (hxn : x.nv) (hy : y.bel (fun _ => False)) (hyn : y.nv) (hk : k ≤ H.length := by simp) (hms : ∀ q ∈ ms, H[q]? = some (some .dfr) := by simp) : CallR P G k R g args dst l fs ρ H ms Q := by
  have eσ : outσ [] H.length = fun i => H.length + i := by funext i; simp [outσ]
  have e : outΔ (outσ [] H.length) 0 [some x, some y] = [(H.length, x), (H.length + 1, y)] := by
    rw [eσ]
    simp only [outΔ, Row.ren_same hx, Row.ren_same hy, Nat.add_zero]
  refine callF (h.lss hargs) d rfl (by simpa using hr) hnv ⟨bel_mono_row hx fun _ h => h.elim, bel_mono_row hy fun _ h => h.elim, trivial⟩ ⟨hxn, hyn, trivial⟩ hk (fun q hq => ⟨?_, hms q hq⟩) ?_
  · rw [e]
    have := (List.getElem?_eq_some_iff.1 (hms q hq)).1
    simp; omega
  · rw [e, eσ]
    have e3 : Heap.put (H ++ [some x]) (H.length + 1) y = H ++ [some x, some y] := by
      have := Heap.put_end (H ++ [some x]) y
      simpa using this
    simp only [Heap.puts, Heap.put_end, e3]
    exact hK
theorem dFN2 {ao : AOper} {lo hi : Nat} {tr : List (List Nat × List Nat)} {ss : List (List AOper)} {x y : Row} {largs : List AVal} {r : AVal} (h : Ans P g largs [] r [some x, some y]) (d : Nat) (deps : List Nat) (hargs : Sx.lss (args.map (frz d (H.onlyR deps))) largs)
    (hK : R (.grp lo l (tr ++ [(deps, [H.length, H.length + 1])]) hi ss) fs ⟨setD ρ ao.dst (ren (fun i => H.length + i) r), H ++ [some x, some y], ms⟩ Q)
    (hr : Bel (· < 2) r) (hnv : NV r) (hx : x.bel (fun _ => False)) (hxn : x.nv) (hy : y.bel (fun _ => False)) (hyn : y.nv) (hd : dynOK ao.free deps [H.length, H.length + 1] tr lo = true) (hms : ∀ q ∈ ms, q < H.length := by simp) : DCallR P R g args ao lo l tr hi ss fs ρ H ms Q := by
  have eσ : outσ [] H.length = fun i => H.length + i := by funext i; simp [outσ]
  have e : outΔ (outσ [] H.length) 0 [some x, some y] = [(H.length, x), (H.length + 1, y)] := by
    rw [eσ]
    simp only [outΔ, Row.ren_same hx, Row.ren_same hy, Nat.add_zero]
  have h1 := (h.lss hargs).dfrz (H := H) (args := args) d deps rfl (by simpa using hr) hnv ⟨bel_mono_row hx fun _ h => h.elim, bel_mono_row hy fun _ h => h.elim, trivial⟩ ⟨hxn, hyn, trivial⟩
  rw [e, eσ] at h1
  have e2 : newNames H.length [some x, some y].length = [H.length, H.length + 1] := rfl
  rw [e2] at h1
  have e3 : Heap.put (H ++ [some x]) (H.length + 1) y = H ++ [some x, some y] := by
    have := Heap.put_end (H ++ [some x]) y
    simpa using this
  refine dcallR (deps := deps) h1 ⟨fun q hq => ?_, fun q hq => ?_, hd, ?_⟩
  · have := hms q hq
    simp [Oc.rows]; omega
  · simp only [List.mem_cons, List.not_mem_nil, or_false] at hq
    simp only [Heap.puts, Heap.put_end, e3, List.length_append, List.length_cons, List.length_nil]
    omega
  · simp only [Heap.puts, Heap.put_end, e3]
    exact hK
end

def fldW (lo hi : List Int) (s : Nat) (t : Bool) : AVal := .agg [vw lo, vw hi, .int .i64 s, .bool t]
theorem fldW_frz {H : Heap} {j0 j1 n s : Nat} {t : Bool} {lo hi : List Int} {g0 g1 : Bool} (h0 : H[j0]? = some (some (.cells g0 1 (iv lo)))) (h1 : H[j1]? = some (some (.cells g1 1 (iv hi)))) (hn0 : n = lo.length) (hn1 : n = hi.length) : frz 6 H (fldV n s t j0 j1) = fldW lo hi s t := by
  show AVal.agg [frz 5 H (.sl j0 0 n), frz 5 H (.sl j1 0 n), _, _] = _
  rw [iv_frz_sl (d := 3) h0 hn0, iv_frz_sl (d := 3) h1 hn1]
  rfl

end Go.Proofs

namespace Go.Proofs
open Go Go.Sx
attribute [local irreducible] Run

end Go.Proofs

namespace Go.Proofs
open Go Go.Sx
attribute [local irreducible] Run

section
variable {P : Program} {g : FuncId} {args largs : List AVal} {H : Heap} {R : Runner} {l : List AOper} {fs : List Sx.Frame} {ρ : List AVal} {ms : List Nat} {Q : Sx.Goal} {ao : AOper} {lo hi : Nat} {tr : List (List Nat × List Nat)} {ss : List (List AOper)}
end

end Go.Proofs

namespace Go.Proofs
open Go Go.Sx

end Go.Proofs

namespace Go.Proofs
open Go Go.Sx
attribute [local irreducible] Run

theorem VolsOf.len {p : Pl} {a b : Int} (hp : PlMade a b p) {v : List Int} (h : VolsOf p v) : (v.length : Int) = gmax p.cs := by
  have := hp.ok.max
  have := h.1
  omega
theorem pla_bel (p : Pl) (j n : Nat) (S : Nat → Prop) (h : S j) : Bel S (p.a (.sl j 0 n)) := by unfold Pl.a Pl.c4; simp only [go_sem, h]

end Go.Proofs

namespace Go.Proofs
open Go Go.Sx

end Go.Proofs

namespace Go.Proofs
open Go Go.Sx
attribute [local irreducible] Run

theorem endLs_ge (v : List Int) (m : Int) : ∀ (cs : List Int) (a : Int), m ≤ a → (∀ c ∈ cs, c ≠ 0 → m ≤ vo v c) → m ≤ endLs v a cs
  | [], a, h, _ => h
  | c :: cs, a, h, h' => by
    rw [endLs]
    refine endLs_ge v m cs _ ?_ fun d hd => h' d (by simp [hd])
    split
    · exact h
    · have := h' c (by simp) (by assumption)
      split <;> omega
end Go.Proofs

namespace Go.Proofs
open Go Go.Sx

end Go.Proofs

namespace Go.Proofs
open Go Go.Sx
attribute [local irreducible] Run

theorem mem_gt {l : List Int} {x : Int} (h : x ∈ l) : ∃ i, i < l.length ∧ gt l i = x := by
  obtain ⟨i, hi, e⟩ := List.mem_iff_getElem.1 h
  exact ⟨i, hi, by unfold gt; rw [List.getD_eq_getElem?_getD, List.getElem?_eq_getElem hi, ← e]; rfl⟩
def mixTo (a b : List Int) (i : Nat) : List Int := a.take i ++ b.drop i
theorem mix_len {a b : List Int} (h : a.length = b.length) {i : Nat} (hi : i ≤ a.length) : (mixTo a b i).length = a.length := by simp [mixTo]; omega
theorem mix_set {a b : List Int} (h : a.length = b.length) {i : Nat} (hi : i < a.length) : (mixTo a b i).set i (gt a i) = mixTo a b (i + 1) := by
  unfold mixTo
  rw [List.set_append_right _ _ (by simp; omega)]
  have e1 : i - (a.take i).length = 0 := by simp; omega
  have e2 : b.drop i = gt b i :: b.drop (i + 1) := drop_step (by omega)
  rw [e1, e2, List.set_cons_zero, List.take_add_one, gt_get hi]
  simp
theorem mix_gt {a b : List Int} (h : a.length = b.length) {i : Nat} (hi : i < a.length) : gt (mixTo a b i) i = gt b i := by
  unfold mixTo gt
  rw [List.getD_eq_getElem?_getD, List.getD_eq_getElem?_getD, List.getElem?_append_right (by simp; omega), List.getElem?_drop]
  congr 2
  simp; omega
theorem mix_end {a b : List Int} (h : a.length = b.length) : mixTo a b a.length = a := by rw [mixTo, h, List.drop_length, List.append_nil, ← h, List.take_length]

end Go.Proofs

namespace Go.Proofs
open Go Go.Sx

end Go.Proofs

namespace Go.Proofs
open Go Go.Sx
attribute [local irreducible] Run

theorem Copy_ok {p : Pl} (hlen : p.cs.length ≤ 1000000) (hne : 1 ≤ p.cs.length) : Ans Try.prog n_ref01_Copy [p.v] [] (p.a (.sl 0 0 p.cs.length)) [some (.cells true 1 (iv p.cs))] := by
  refine Ans.keep (run_fn e_ref01_Copy fun G => ?_) (by simp) (by simp [go_sem, Pl.a, Pl.c4]) ⟨iv_row _ _ _, trivial⟩
  have hnz : p.cs ≠ [] := fun h => by rw [h] at hne; simp at hne
  simp only [go_sem, Pl.v, Pl.a, Pl.c4, vw]
  have hs : sizedAll 1 (List.map (AVal.int IntKind.i64) p.cs) = true := by simp [sizedAll, acells, AVal.one]
  refine ⟨by rw [hs]; simp, by omega, ?_⟩
  exact kept_new (A := []) 0 2 rfl rfl (by omega) (by simp [ren, rens]) (fun i x hx => by simp at hx) (iv_row _ _ _) rfl

theorem wsum_if (c : Prop) [Decidable c] (n : Nat) (k : Int) (f : Nat → Int) : wsum (if c then [(n, k)] else []) f = if c then k * f n else 0 := by
  split <;> simp [wsum]
theorem wsum_nbs (p : Pl) {x y : Nat} (hx : x < p.w) (f : Nat → Int) : wsum (nbs p (y * p.w + x)) f =
    (if 0 < x then besW p.rd (x - 1) * f (y * p.w + (x - 1)) else 0) + ((if x + 1 < p.w then besW p.rd x * f (y * p.w + (x + 1)) else 0) +
    ((if 0 < y then abvW p.rd x * f ((y - 1) * p.w + x) else 0) + (if y + 1 < p.h then abvW p.rd x * f ((y + 1) * p.w + x) else 0))) := by
  rw [nbs_at p hx, wsum_append, wsum_append, wsum_append, wsum_if, wsum_if, wsum_if, wsum_if]

end Go.Proofs

namespace Go.Proofs
open Go Go.Sx
attribute [local irreducible] Run

theorem mxL_or : ∀ (l : List Int) (a : Int), mxL a l = a ∨ mxL a l ∈ l
  | [], _ => .inl rfl
  | c :: l, a => by
    rw [mxL]
    rcases mxL_or l (if a < c then c else a) with h | h
    · rw [h]; split
      · exact .inr (by simp)
      · exact .inl rfl
    · exact .inr (by simp [h])
end Go.Proofs

namespace Go.Proofs
open Go Go.Sx
attribute [local irreducible] Run

def chC (p : Pl) (a : List Int) (e : Int) (i : Nat) : Nat → Int := fun n => if gt p.cs n = e then 0 else gt a i - gt a n
def chTo (p : Pl) (a : List Int) (e : Int) : Nat → Int
  | 0 => 0
  | i + 1 => chTo p a e i + if gt p.cs i = e then wsum (nbs p i) (chC p a e i) else 0
def chg (p : Pl) (a : List Int) (e : Int) : Int := chTo p a e (p.w * p.h)
theorem chC_bd {p : Pl} {a : List Int} (ha : AtOK p a) (e : Int) {i n : Nat} (hi : i < p.w * p.h) (hn : n < p.w * p.h) : -2000000 ≤ chC p a e i n ∧ chC p a e i n ≤ 2000000 := by
  have h1 := ha.bd i hi
  have h2 := ha.bd n hn
  unfold chC; split <;> omega
theorem chS_bd {p : Pl} (hp : PlOK p) {a : List Int} (ha : AtOK p a) (e : Int) {i : Nat} (hi : i < p.w * p.h) (k : Nat) : -256000000 ≤ wsum ((nbs p i).take k) (chC p a e i) ∧ wsum ((nbs p i).take k) (chC p a e i) ≤ 256000000 := by
  have hN := nbs_in p hp.w.2 hi
  have hl := nbs_len p i
  have h1 := wtot_bd (l := (nbs p i).take k) fun q hq => ⟨(hN q (List.mem_of_mem_take hq)).2.1, (hN q (List.mem_of_mem_take hq)).2.2.1⟩
  have h2 := wsum_in (l := (nbs p i).take k) (f := chC p a e i) (a := -2000000) (b := 2000000) fun q hq => by
    obtain ⟨k1, k2, _⟩ := hN q (List.mem_of_mem_take hq)
    exact ⟨by omega, chC_bd ha e hi k1⟩
  have h3 : ((nbs p i).take k).length ≤ 4 := by rw [List.length_take]; omega
  omega
theorem chTo_bd {p : Pl} (hp : PlOK p) {a : List Int} (ha : AtOK p a) (e : Int) : ∀ i, i ≤ p.w * p.h → -256000000 * (i : Int) ≤ chTo p a e i ∧ chTo p a e i ≤ 256000000 * (i : Int)
  | 0, _ => by simp [chTo]
  | i + 1, h => by
    have ih := chTo_bd hp ha e i (by omega)
    have h1 := chS_bd hp ha e (show i < p.w * p.h by omega) (nbs p i).length
    rw [List.take_length] at h1
    rw [chTo]
    push_cast
    split <;> omega

theorem freed_get : ∀ (ms : List Nat) (H : Heap) {j : Nat}, (∀ q ∈ ms, q ≠ j) → (freed H ms)[j]? = H[j]?
  | [], _, _, _ => rfl
  | m :: ms, H, j, h => by
    rw [freed, freed_get ms _ fun q hq => h q (by simp [hq]), List.getElem?_set_ne (h m (by simp))]
def chF (p : Pl) (f : AVal) (e lo hi : Int) : Heap :=
  [some (.cells false 4 [p.v]), some (.cells false 4 [f]), some (.cells false 1 [.int .i64 e]), some (.cells false 2 [.agg [.int .i64 0, .int .i64 0]]), some (.cells false 2 [.agg [.int .i64 lo, .int .i64 hi]])]
def chH (p : Pl) (f : AVal) (e lo hi : Int) (X T Y : Heap) : Heap := chF p f e lo hi ++ (X ++ (T ++ Y))
theorem chH_get (p : Pl) (f : AVal) (e lo hi : Int) (X T Y : Heap) {j : Nat} (hj : j < T.length) : (chH p f e lo hi X T Y)[X.length + 5 + j]? = T[j]? := by
  unfold chH
  rw [List.getElem?_append_right (by simp [chF]; omega), List.getElem?_append_right (by simp [chF]; omega), List.getElem?_append_left (by simp [chF]; omega)]
  congr 1
  simp [chF]; omega
theorem chH_old (p : Pl) (f : AVal) (e lo hi : Int) (X T Y : Heap) {k : Nat} (hk : k < X.length) : (chH p f e lo hi X T Y)[k + 5]? = X[k]? := by
  unfold chH
  rw [List.getElem?_append_right (by simp [chF]), List.getElem?_append_left (by simp [chF]; exact hk)]
  congr 1
theorem chH_set (p : Pl) (f : AVal) (e lo hi : Int) (a0 a b c d : Option Row) (X Y : Heap) (y : Option Row) : (chH p f e lo hi X [a0, a, b, c, d] Y).set (X.length + 9) y = chH p f e lo hi X [a0, a, b, c, y] Y := by
  unfold chH
  rw [List.set_append_right _ _ (by simp [chF]), List.set_append_right _ _ (by simp [chF]), List.set_append_left _ _ (by simp [chF])]
  have e : X.length + 9 - (chF p f e lo hi).length - X.length = 4 := by simp only [chF, List.length_cons, List.length_nil]; omega
  rw [e]; rfl
theorem chH_put (p : Pl) (f : AVal) (e lo hi : Int) (a0 a b c d : Option Row) (X Y : Heap) (y : Row) : Heap.put (chH p f e lo hi X [a0, a, b, c, d] Y) (X.length + 9) y = chH p f e lo hi X [a0, a, b, c, some y] Y := by
  rw [put_lt (by simp [chH, chF]; omega)]
  exact chH_set _ _ _ _ _ _ _ _ _ _ _ _ _
theorem chH_len (p : Pl) (f : AVal) (e lo hi : Int) (X T Y : Heap) : (chH p f e lo hi X T Y).length = X.length + T.length + Y.length + 5 := by
  simp [chH, chF]; omega
def chT (p : Pl) (n m : Nat) : List (Nat × AVal) := [(3, .ptr 0 0 0 1), (4, .ptr 1 0 0 1), (5, .ptr 2 0 0 1), (6, .ptr 3 0 0 1), (7, .ptr 4 0 0 1), (8, .ptr (m + 5) 0 0 1), (13, vw p.cs), (14, .int .i64 p.cs.length), (15, .int .i64 n), (25, .fn (.func n_field_neighbours_1) [] [.ptr (m + 7) 0 0 1, .ptr (m + 6) 0 0 1])]
def chL (p : Pl) (n m : Nat) (st : LoopState) (pe : Option ACode) : Row := .loop (tsets 71 (chT p n m)) [26, 27] k_field_charge_r12 k_field_charge_r13 (m + 8) st pe
def chR (p : Pl) (n m : Nat) (st : LoopState) : Heap := [some (.cells false 1 [.int .i64 n]), some (.cells false 4 [p.v]), some (.cells false 1 [.int .i64 n]), some .dfr, some (chL p n m st none)]

set_option maxHeartbeats 4000000 in
set_option maxRecDepth 8000 in
theorem charge_ok {p : Pl} (hp : PlOK p) {la ha : List Int} (hla : AtOK p la) (hha : AtOK p ha) (s : Nat) (t : Bool) (e : Int) : Ans Try.prog n_field_charge [p.v, fldW la ha s t, .int .i64 e] [] (Rg.v ⟨chg p ha e, chg p la e⟩) [] := by
  have hw := hp.w; have hh := hp.h
  have hN : p.w * p.h ≤ 256 := Nat.mul_le_mul hw.2 hh.2
  have hlen := hp.len
  refine spec_run e_field_charge fun G => ?_
  simp only [go_sem, Pl.v, Pl.a, Pl.c4, vw, fldW, List.length_map]
  refine loop_indM k_field_charge_r15.eq_1 (fun a : Nat × Heap × List Nat => a.1 ≤ p.cs.length ∧ a.2.2.Nodup ∧ ∀ q ∈ a.2.2, ∃ k, q = k + 5 ∧ a.2.1[k]? = some (some .dfr)) (fun a => p.cs.length - a.1)
    (fun a => (tsets 71 [(3, .ptr 0 0 0 1), (4, .ptr 1 0 0 1), (5, .ptr 2 0 0 1), (6, .ptr 3 0 0 1), (7, .ptr 4 0 0 1), (13, vw p.cs), (14, .int .i64 p.cs.length), (15, .int .i64 a.1)], chF p (fldW la ha s t) e (chTo p ha e a.1) (chTo p la e a.1) ++ a.2.1, a.2.2)) (0, [], []) ⟨Nat.zero_le _, List.nodup_nil, fun q hq => by simp at hq⟩ (by simp [go_sem, vw]) rfl rfl ?_
  rintro ⟨n, X, ms⟩ ⟨hn, hms1, hms2⟩ ih
  dsimp only at hn hms1 hms2 ih ⊢
  by_cases h1 : n < p.cs.length
  · have h2 : (n : Int) < p.cs.length := by omega
    have h3 := idx_next h1 (by omega)
    have n0 : ¬ (n : Int) < 0 := by omega
    have hnN : n < p.w * p.h := by rw [← hlen]; exact h1
    have hx := gt_get h1
    have b1 := chTo_bd hp hla e (n + 1) hnN
    have b2 := chTo_bd hp hha e (n + 1) hnN
    simp only [chTo] at b1 b2
    by_cases he : gt p.cs n = e
    · have he' : (gt p.cs n != e) = false := by simp [he]
      have hchT : chTo p la e (n + 1) = chTo p la e n + wsum (nbs p n) (chC p la e n) := by rw [chTo, if_pos he]
      have hchU : chTo p ha e (n + 1) = chTo p ha e n + wsum (nbs p n) (chC p ha e n) := by rw [chTo, if_pos he]
      have c1 := chTo_bd hp hla e n (by omega)
      have c2 := chTo_bd hp hha e n (by omega)
      have hdf : ∀ (L : Heap), ∀ q ∈ ms, (chF p (fldW la ha s t) e (chTo p ha e n) (chTo p la e n) ++ (X ++ L))[q]? = some (some .dfr) := fun L q hq => by
        obtain ⟨k, rfl, hk⟩ := hms2 q hq
        have hkl := (List.getElem?_eq_some_iff.1 hk).1
        have := chH_old p (fldW la ha s t) e (chTo p ha e n) (chTo p la e n) X [] L hkl
        unfold chH at this
        rw [List.nil_append] at this
        rw [this]; exact hk
      generalize chTo p la e n = ch0 at *
      generalize chTo p ha e n = cl0 at *
      simp only [chF, List.cons_append, List.nil_append]
      generalize hz : gt p.cs n = z at *
      simp only [go_sem, Pl.v, Pl.a, Pl.c4, vw, fldW, List.length_map, h2, n0, hx, he']
      refine cN2 (neighbours_ok p n) ?_ (hms := ?_)
      · simp only [go_sem, ren, rens]
        have hl : (chF p (fldW la ha s t) e cl0 ch0 ++ (X ++ [some (Row.cells false 1 [.int .i64 (n : Int)]), some (Row.cells false 4 [p.v]), some (Row.cells false 1 [.int .i64 (n : Int)])])).length = X.length + 8 := by simp [chF]
        show Mean Try.prog G 0 none _ _ ⟨_, chF p (fldW la ha s t) e cl0 ch0 ++ (X ++ [some (Row.cells false 1 [.int .i64 (n : Int)]), some (Row.cells false 4 [p.v]), some (Row.cells false 1 [.int .i64 (n : Int)])]), ms⟩ _
        refine rangeF 2000 (ρ := tsets 71 (chT p n X.length)) (by simp [go_sem, chT, vw]) (by simp only [go_sem, chT]; rfl)
          (R := fun v H' => v = .tup [] ∧ (H' = chH p (fldW la ha s t) e (cl0 + wsum (nbs p n) (chC p ha e n)) (ch0 + wsum (nbs p n) (chC p la e n)) X (chR p n X.length .ready) [] ∨ False)) ?_ (by simp) ?_
        · rw [hl]
          have hheap : chF p (fldW la ha s t) e cl0 ch0 ++ (X ++ [some (Row.cells false 1 [.int .i64 (n : Int)]), some (Row.cells false 4 [p.v]), some (Row.cells false 1 [.int .i64 (n : Int)])]) ++ [some .dfr] ++ [some (.loop (tsets 71 (chT p n X.length)) [26, 27] k_field_charge_r12 k_field_charge_r13 (X.length + 8) .ready none)] = chH p (fldW la ha s t) e cl0 ch0 X (chR p n X.length .ready) [] := by
            simp [chH, chR, chL]
          rw [hheap]
          have hit := nbs1_iter (G := G) hp hnN (r := X.length + 9) (jc := X.length + 7) (jp := X.length + 6) (N := X.length + 10) (Pre := fun k H => H = chH p (fldW la ha s t) e (cl0 + wsum ((nbs p n).take k) (chC p ha e n)) (ch0 + wsum ((nbs p n).take k) (chC p la e n)) X (chR p n X.length .ready) []) (Stop := fun _ => False) ⟨?_, ?_⟩
            (by rw [List.take_zero, wsum, wsum, Int.add_zero, Int.add_zero]) (by rw [chH_len]; simp [chR])
          · rw [List.take_length] at hit
            exact hit
          · rintro k H rfl
            exact ⟨by rw [chH_len]; simp [chR], chH_get _ _ _ _ _ X (chR p n X.length .ready) [] (j := 2) (by simp [chR]), chH_get _ _ _ _ _ X (chR p n X.length .ready) [] (j := 1) (by simp [chR])⟩
          · rintro k ⟨m, wt⟩ H hq rfl
            obtain ⟨hm, k2, k3, _⟩ := nbs_in p hw.2 hnN _ (List.mem_of_getElem? hq)
            dsimp only at hm k2 k3 ⊢
            have t1 : wsum ((nbs p n).take (k + 1)) (chC p ha e n) = wsum ((nbs p n).take k) (chC p ha e n) + wt * chC p ha e n m := wsum_take hq _
            have t2 : wsum ((nbs p n).take (k + 1)) (chC p la e n) = wsum ((nbs p n).take k) (chC p la e n) + wt * chC p la e n m := wsum_take hq _
            have d1 := chS_bd hp hha e hnN k
            have d2 := chS_bd hp hla e hnN k
            have d3 := chS_bd hp hha e hnN (k + 1)
            have d4 := chS_bd hp hla e hnN (k + 1)
            have hrow := fun u v => chH_get p (fldW la ha s t) e u v X (chR p n X.length .ready) [] (j := 4) (by simp [chR])
            have hmx := gt_get (l := p.cs) (i := m) (by omega)
            have ga := gt_get (l := la) (i := m) (by rw [hla.len]; exact hm)
            have gb := gt_get (l := ha) (i := m) (by rw [hha.len]; exact hm)
            have gc := gt_get (l := la) (i := n) (by rw [hla.len]; exact hnN)
            have gd := gt_get (l := ha) (i := n) (by rw [hha.len]; exact hnN)
            have q0 : ¬ (m : Int) < 0 := by omega
            have q1 : (m : Int) < p.cs.length := by omega
            have q2 : (m : Int) < la.length := by rw [hla.len]; omega
            have q3 : (m : Int) < ha.length := by rw [hha.len]; omega
            have q4 : (n : Int) < la.length := by rw [hla.len]; omega
            have q5 : (n : Int) < ha.length := by rw [hha.len]; omega
            have v1 := hla.bd n hnN
            have v2 := hha.bd n hnN
            have v3 := hla.bd m hm
            have v4 := hha.bd m hm
            have w1 : chC p ha e n m = if gt p.cs m = e then 0 else gt ha n - gt ha m := rfl
            have w2 : chC p la e n m = if gt p.cs m = e then 0 else gt la n - gt la m := rfl
            rw [w1] at t1
            rw [w2] at t2
            clear w1 w2
            generalize hR : (fun (v : AVal) (H' : Heap) => (v = .bool true ∧ H' = chH p (fldW la ha s t) e (cl0 + wsum ((nbs p n).take (k + 1)) (chC p ha e n)) (ch0 + wsum ((nbs p n).take (k + 1)) (chC p la e n)) X (chR p n X.length .ready) []) ∨ (v = .bool false ∧ False)) = R
            have hfin : R (.bool true) (chH p (fldW la ha s t) e (cl0 + wsum ((nbs p n).take (k + 1)) (chC p ha e n)) (ch0 + wsum ((nbs p n).take (k + 1)) (chC p la e n)) X (chR p n X.length .ready) []) := by rw [← hR]; exact .inl ⟨rfl, rfl⟩
            clear hR
            generalize wsum ((nbs p n).take (k + 1)) (chC p ha e n) = A1 at *
            generalize wsum ((nbs p n).take (k + 1)) (chC p la e n) = B1 at *
            generalize wsum ((nbs p n).take k) (chC p ha e n) = A0 at *
            generalize wsum ((nbs p n).take k) (chC p la e n) = B0 at *
            by_cases hme : gt p.cs m = e
            · rw [if_pos hme, Int.mul_zero, Int.add_zero] at t1 t2
              subst t1
              subst t2
              have hme' : (gt p.cs m != e) = false := by simp [hme]
              generalize gt p.cs m = zm at *
              refine roundW_run 500 k_field_charge_r12.eq_1 (hrow _ _) rfl (ρ' := tsets 71 (chT p n X.length ++ [(26, .int .i64 (m : Int)), (27, .int .i64 wt)])) rfl ?_
              simp only [go_sem, chT]
              refine roundMid_run 500 k_field_charge_r13.eq_1 (hrow _ _) (chH_put _ _ _ _ _ _ _ _ _ _ _ _ _) ?_
              have hci := fun u v => cells_at (chH_get p (fldW la ha s t) e u v X [some (.cells false 1 [.int .i64 n]), some (.cells false 4 [p.v]), some (.cells false 1 [.int .i64 n]), some .dfr, some (chL p n X.length .busy none)] [] (j := 0) (by simp))
              have hrow2 := fun u v => chH_get p (fldW la ha s t) e u v X [some (.cells false 1 [.int .i64 n]), some (.cells false 4 [p.v]), some (.cells false 1 [.int .i64 n]), some .dfr, some (chL p n X.length .busy none)] [] (j := 4) (by simp)
              have hput := fun u v => chH_put p (fldW la ha s t) e u v (some (.cells false 1 [.int .i64 n])) (some (.cells false 4 [p.v])) (some (.cells false 1 [.int .i64 n])) (some .dfr) (some (chL p n X.length .busy none)) X [] (chL p n X.length .ready none)
              simp only [chH, chF, Nat.add_zero, List.append_nil, List.cons_append, List.nil_append, Pl.v, Pl.a, Pl.c4, vw, fldW] at hci hrow2 hput hfin ⊢
              simp only [go_sem, hci, hmx, q0, q1, hme', List.length_map]
              refine roundEnd_on (hrow2 _ _) ?_
              exact Eq.mpr (congrArg (R (.bool true)) (hput _ _)) hfin
            · rw [if_neg hme] at t1 t2
              have hme' : (gt p.cs m != e) = true := by simp [hme]
              generalize gt p.cs m = zm at *
              generalize gt la n = y1 at *
              generalize gt ha n = y2 at *
              generalize gt la m = y3 at *
              generalize gt ha m = y4 at *
              have m1 : -64000000 ≤ wt * (y2 - y4) ∧ wt * (y2 - y4) ≤ 64000000 := by
                have h4 := Int.mul_le_mul_of_nonneg_left (show y2 - y4 ≤ 2000000 by omega) (show 0 ≤ wt by omega)
                have h5 := Int.mul_le_mul_of_nonneg_left (show -2000000 ≤ y2 - y4 by omega) (show 0 ≤ wt by omega)
                omega
              have m2 : -64000000 ≤ wt * (y1 - y3) ∧ wt * (y1 - y3) ≤ 64000000 := by
                have h4 := Int.mul_le_mul_of_nonneg_left (show y1 - y3 ≤ 2000000 by omega) (show 0 ≤ wt by omega)
                have h5 := Int.mul_le_mul_of_nonneg_left (show -2000000 ≤ y1 - y3 by omega) (show 0 ≤ wt by omega)
                omega
              have z1 : IntKind.i64.wrap (y2 - y4) = y2 - y4 := w64 (by omega)
              have z2 : IntKind.i64.wrap (y1 - y3) = y1 - y3 := w64 (by omega)
              have z3 : IntKind.i64.wrap (wt * (y2 - y4)) = wt * (y2 - y4) := w64 (by omega)
              have z4 : IntKind.i64.wrap (wt * (y1 - y3)) = wt * (y1 - y3) := w64 (by omega)
              have z5 : IntKind.i64.wrap (cl0 + A0 + wt * (y2 - y4)) = cl0 + A1 := by rw [w64 (by omega)]; omega
              have z6 : IntKind.i64.wrap (ch0 + B0 + wt * (y1 - y3)) = ch0 + B1 := by rw [w64 (by omega)]; omega
              clear t1 t2
              refine roundW_run 500 k_field_charge_r12.eq_1 (hrow _ _) rfl (ρ' := tsets 71 (chT p n X.length ++ [(26, .int .i64 (m : Int)), (27, .int .i64 wt)])) rfl ?_
              simp only [go_sem, chT]
              refine roundMid_run 500 k_field_charge_r13.eq_1 (hrow _ _) (chH_put _ _ _ _ _ _ _ _ _ _ _ _ _) ?_
              have hci := fun u v => cells_at (chH_get p (fldW la ha s t) e u v X [some (.cells false 1 [.int .i64 n]), some (.cells false 4 [p.v]), some (.cells false 1 [.int .i64 n]), some .dfr, some (chL p n X.length .busy none)] [] (j := 0) (by simp))
              have hrow2 := fun u v => chH_get p (fldW la ha s t) e u v X [some (.cells false 1 [.int .i64 n]), some (.cells false 4 [p.v]), some (.cells false 1 [.int .i64 n]), some .dfr, some (chL p n X.length .busy none)] [] (j := 4) (by simp)
              have hput := fun u v => chH_put p (fldW la ha s t) e u v (some (.cells false 1 [.int .i64 n])) (some (.cells false 4 [p.v])) (some (.cells false 1 [.int .i64 n])) (some .dfr) (some (chL p n X.length .busy none)) X [] (chL p n X.length .ready none)
              simp only [chH, chF, Nat.add_zero, List.append_nil, List.cons_append, List.nil_append, Pl.v, Pl.a, Pl.c4, vw, fldW] at hci hrow2 hput hfin ⊢
              simp only [go_sem, hci, hmx, q0, q1, hme', List.length_map, ga, gb, gc, gd, q2, q3, q4, q5, n0, z1, z2, z3, z4, z5, z6]
              refine roundEnd_on (hrow2 _ _) ?_
              exact Eq.mpr (congrArg (R (.bool true)) (hput _ _)) hfin
        · rintro v H' ⟨rfl, rfl | h⟩
          · rw [hl]
            refine ⟨fun q hq => ?_, _, _, _, _, _, _, _, chH_get _ _ _ _ _ X (chR p n X.length .ready) [] (j := 4) (by simp [chR]), by decide, ?_⟩
            · rcases List.mem_cons.1 hq with rfl | hq
              · exact chH_get _ _ _ _ _ X (chR p n X.length .ready) [] (j := 3) (by simp [chR])
              · obtain ⟨k, rfl, hk⟩ := hms2 q hq
                rw [chH_old _ _ _ _ _ _ _ _ (List.getElem?_eq_some_iff.1 hk).1]; exact hk
            · show Run Try.prog G 0 none 2000 (.out .normal) _ ⟨_, (chH p (fldW la ha s t) e _ _ X (chR p n X.length .ready) []).set (X.length + 9) none, _⟩ _
              unfold chR
              rw [chH_set]
              simp only [go_sem, chT, tsets, h3]
              have ihn := ih (n + 1, (X ++ ([some (.cells false 1 [.int .i64 n]), some (.cells false 4 [p.v]), some (.cells false 1 [.int .i64 n]), some .dfr, none] : Heap) : Heap), (X.length + 8) :: ms) (by dsimp only; omega)
              dsimp only at ihn
              rw [hchT, hchU] at ihn
              refine ihn ⟨h1, ?_, fun q hq => ?_⟩ _ (by simp [go_sem, vw])
              · refine List.nodup_cons.2 ⟨fun h => ?_, hms1⟩
                obtain ⟨k, hk1, hk2⟩ := hms2 _ h
                have := (List.getElem?_eq_some_iff.1 hk2).1
                omega
              · rcases List.mem_cons.1 hq with rfl | hq
                · refine ⟨X.length + 3, rfl, ?_⟩
                  rw [List.getElem?_append_right (by omega)]
                  simp
                · obtain ⟨k, hk1, hk2⟩ := hms2 q hq
                  exact ⟨k, hk1, by rw [List.getElem?_append_left (List.getElem?_eq_some_iff.1 hk2).1]; exact hk2⟩
          · exact h.elim
      · exact hdf [some (.cells false 1 [.int .i64 n])]
    · have he' : (gt p.cs n != e) = true := by simp [he]
      have ihn := ih (n + 1, X ++ [some (.cells false 1 [.int .i64 n])], ms) (by dsimp only; omega) ⟨h1, hms1, fun q hq => by
        obtain ⟨k, hk1, hk2⟩ := hms2 q hq
        exact ⟨k, hk1, by dsimp only; rw [List.getElem?_append_left (List.getElem?_eq_some_iff.1 hk2).1]; exact hk2⟩⟩
      simp only [chTo, if_neg he, Int.add_zero] at ihn
      simp only [chF, List.cons_append, List.nil_append] at ihn ⊢
      generalize gt p.cs n = z at *
      simp only [go_sem, Pl.v, Pl.a, Pl.c4, vw, fldW, List.length_map, h2, n0, hx, he', h3]
      exact ihn _ (by simp [go_sem, vw])
  · have h2 : ¬ (n : Int) < p.cs.length := by omega
    have hnN : n = p.w * p.h := by omega
    subst hnN
    have hne : ∀ q ∈ ms, q ≠ 3 := fun q hq => by obtain ⟨k, hk, _⟩ := hms2 q hq; omega
    have hc := fun L : Heap => freed_get ms (some (.cells false 4 [p.v]) :: some (.cells false 4 [fldW la ha s t]) :: some (.cells false 1 [.int .i64 e]) :: some (.cells false 2 [.agg [.int .i64 (chTo p ha e (p.w * p.h)), .int .i64 (chTo p la e (p.w * p.h))]]) :: L) hne
    have hc' := fun L : Heap => cells_at ((hc L).trans rfl)
    simp only [chF, go_sem, Pl.v, Pl.a, Pl.c4, vw, fldW, List.length_map, h2, List.cons_append, List.nil_append] at hc' ⊢
    simp only [hc', go_sem]
    exact ⟨hms1, rfl⟩
end Go.Proofs

namespace Go.Proofs
open Go Go.Sx
attribute [local irreducible] Run

def idxF (x : Int) : List Int → Nat → Int
  | [], _ => -1
  | c :: cs, i => if x = c then i else idxF x cs (i + 1)
theorem idxF_mem (x : Int) : ∀ (l : List Int) (i : Nat), 0 ≤ idxF x l i ↔ x ∈ l
  | [], i => by simp [idxF]
  | c :: cs, i => by
    rw [idxF]
    by_cases h : x = c
    · simp [h]
    · simp [h, idxF_mem x cs (i + 1)]

theorem Index_ok {l : List Int} (x : Int) (hlen : l.length ≤ 1000000) : Ans Try.prog n_slices_Index_int_int [vw l, .int .i64 x] [] (.int .i64 (idxF x l 0)) [] := by
  generalize hRES : idxF x l 0 = RES
  refine spec_run e_slices_Index_int_int fun G => ?_
  simp only [go_sem, vw]
  refine loop_ind k_slices_Index_int_int_r7.eq_1 (fun i : Nat => i ≤ l.length ∧ idxF x (l.drop i) i = RES) (fun i => l.length - i)
    (fun i => (tsets 19 [(0, vw l), (1, .int .i64 x), (7, .int .i64 l.length), (8, .int .i64 i)], [])) 0 ⟨Nat.zero_le _, by simpa using hRES⟩ (by simp [go_sem, vw]) rfl ?_
  rintro i ⟨hi, hm⟩ ih
  dsimp only at hi hm ih ⊢
  by_cases h1 : i < l.length
  · have h2 : (i : Int) < l.length := by omega
    have h3 := idx_next h1 (by omega)
    have n0 : ¬ (i : Int) < 0 := by omega
    have hx := gt_get h1
    rw [drop_step h1, idxF] at hm
    generalize gt l i = z at *
    by_cases hz : x = z
    · have hz' : (x == z) = true := by simp [hz]
      rw [if_pos hz] at hm
      simp only [go_sem, vw, List.length_map, h2, n0, hx, hz']
      rw [← hm]
    · have hz' : (x == z) = false := by simp [hz]
      rw [if_neg hz] at hm
      simp only [go_sem, vw, List.length_map, h2, n0, hx, hz', h3]
      exact ih (i + 1) (by omega) ⟨h1, hm⟩ _ (by simp [go_sem, vw])
  · have h2 : ¬ (i : Int) < l.length := by omega
    rw [drop_end (by omega), idxF] at hm
    simp only [go_sem, vw, List.length_map, h2]
    rw [← hm]

theorem Contains_ok {l : List Int} (x : Int) (hlen : l.length ≤ 1000000) : Ans Try.prog n_slices_Contains_int_int [vw l, .int .i64 x] [] (.bool (decide (x ∈ l))) [] := by
  have h := Index_ok x hlen
  have hm := idxF_mem x l 0
  refine spec_run e_slices_Contains_int_int fun G => ?_
  simp only [go_sem, vw]
  refine cP h ?_
  simp only [go_sem]
  rw [decide_eq_decide.2 hm]

theorem has_ok {p : Pl} (hlen : p.cs.length ≤ 1000000) (e : Int) : Ans Try.prog n_field_has [p.v, .int .i64 e] [] (.bool (decide (e ≠ 0 ∧ e ∈ p.cs))) [] := by
  have h := Contains_ok e hlen
  refine spec_run e_field_has fun G => ?_
  by_cases he : e = 0
  · have he' : (e != 0) = false := by simp [he]
    simp only [go_sem, Pl.v, Pl.a, Pl.c4, vw, he']
    simp [he]
  · have he' : (e != 0) = true := by simp [he]
    simp only [go_sem, Pl.v, Pl.a, Pl.c4, vw, he']
    refine cP h ?_
    simp only [go_sem]
    simp [he]

end Go.Proofs

