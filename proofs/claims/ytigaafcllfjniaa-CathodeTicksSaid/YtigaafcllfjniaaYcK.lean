/- Coats in laws. -/
import Derived.Test.YtigaafcllfjniaaYcJ
import Derived.Test.YtigaafcllfjniaaYcX
import Derived.Test.YtigaafcllfjniaaSxF
namespace Go.Proofs
open Go Go.Sx

@[go_sem] theorem ct_bel (x : Ct) (t : AVal) (S : Nat → Prop) : Bel S (x.v t) = Bel S t := by unfold Ct.v Ct.cs; simp only [go_sem]
theorem hts_frz (l : List Ht) (d : Nat) (H : Heap) : (l.map Ht.v).map (frz (d + 2) H) = l.map Ht.v := by rw [List.map_map]; rfl
/-- A coat whose bands lie in a row, as it is seen by one who only reads. -/
theorem ct_frz {c : Ct} {H : Heap} {j : Nat} (h : H[j]? = some (some (BdR c.bands))) : frz 6 H (c.v (.sl j 0 c.bands.length)) = c.v (.view (c.bands.map Bd.v)) := by
  have h1 : frz 5 H (.sl j 0 c.bands.length) = .view (c.bands.map Bd.v) := by
    rw [frz_sl (d := 4) h (by simp), bds_frz]
  show AVal.agg [_, _, _, _, _, _, frz 5 H (.sl j 0 c.bands.length)] = _
  rw [h1]; rfl

/-- A schedule in a row, as it is seen by one who only reads. -/
theorem sch_frz {l : List Ht} {H : Heap} {j n : Nat} {gr : Bool} (h : H[j]? = some (some (.cells gr 3 (l.map Ht.v)))) (hn : n = l.length) : frz 6 H (.sl j 0 n) = .view (l.map Ht.v) := by
  rw [frz_sl (d := 5) h (by simpa using hn), hts_frz]
@[go_sem] theorem cgr_nv (xs : List Cg) : (CgR xs).nv = True := eq_true (row_nv_cells _ _ (nvs_map _ _ fun x => by simp only [go_sem]))
theorem ht_cells (l : List Ht) : ∀ e ∈ l.map Ht.v, (acells e).length = 3 := fun e he => by
  obtain ⟨h, _, rfl⟩ := List.mem_map.1 he; rfl
theorem hts_sized (l : List Ht) : sizedAll 3 (l.map Ht.v) = true := by
  unfold sizedAll
  rw [List.all_eq_true]
  intro e he
  obtain ⟨h, _, rfl⟩ := List.mem_map.1 he; rfl
theorem sized_sub {n : Nat} {l l' : List AVal} (h : sizedAll n l = true) (hs : ∀ v ∈ l', v ∈ l) : sizedAll n l' = true := by
  unfold sizedAll at h ⊢
  rw [List.all_eq_true] at h ⊢
  exact fun v hv => h v (hs v hv)
@[go_sem high] theorem sized_t (l : List Ht) (m : Nat) : sizedAll 3 (List.take m (List.map Ht.v l)) = true := sized_sub (hts_sized l) fun v hv => List.mem_of_mem_take hv
@[go_sem high] theorem sized_d (l : List Ht) (m : Nat) : sizedAll 3 (List.drop m (List.map Ht.v l)) = true := sized_sub (hts_sized l) fun v hv => List.mem_of_mem_drop hv
@[go_sem high] theorem sized_td (l : List Ht) (m k : Nat) : sizedAll 3 (List.take m (List.drop k (List.map Ht.v l))) = true := sized_sub (hts_sized l) fun v hv => List.mem_of_mem_drop (List.mem_of_mem_take hv)
end Go.Proofs
