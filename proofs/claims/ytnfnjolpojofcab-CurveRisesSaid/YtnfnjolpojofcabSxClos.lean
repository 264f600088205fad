/- What must come before an operation. -/
import Derived.Test.YtnfnjolpojofcabSxAny
namespace Go.Sx
open Go

def closeOne (acc : List (List Nat)) (o : Oper) : List Nat := ((o.after.toList.filter (Region.binds .any)).flatMap fun e => e.on :: acc.getD e.on []).eraseDups

theorem closures_snoc (l : List Oper) (o : Oper) : closures (l ++ [o]) = closures l ++ [closeOne (closures l) o] := by
  simp [closures, List.foldl_append, closeOne]

theorem closes_len (l : List Oper) : ∀ acc : List (List Nat), (l.foldl (fun acc o => acc ++ [closeOne acc o]) acc).length = acc.length + l.length := by
  induction l with
  | nil => intro acc; rfl
  | cons o l ih => intro acc; rw [List.foldl_cons, ih]; simp; omega

theorem closures_len (l : List Oper) : (closures l).length = l.length := by
  have := closes_len l []
  simpa [closures, closeOne] using this

theorem closes_keep (l : List Oper) (i : Nat) : ∀ acc : List (List Nat), i < acc.length → (l.foldl (fun acc o => acc ++ [closeOne acc o]) acc).getD i [] = acc.getD i [] := by
  induction l with
  | nil => intro acc _; rfl
  | cons o l ih =>
    intro acc h
    rw [List.foldl_cons, ih _ (by simp; omega)]
    simp [List.getD_eq_getElem?_getD, List.getElem?_append_left h]

theorem closures_take (l l' : List Oper) (i : Nat) (h : i < l.length) : (closures (l ++ l')).getD i [] = (closures l).getD i [] := by
  have e : closures (l ++ l') = l'.foldl (fun acc o => acc ++ [closeOne acc o]) (closures l) := by simp [closures, closeOne, List.foldl_append]
  rw [e]
  exact closes_keep l' i _ (by rw [closures_len]; exact h)

theorem closures_at {l : List Oper} {j : Nat} (hj : j < l.length) : (closures l).getD j [] = closeOne (closures (l.take j)) l[j] := by
  have e : (l.take j ++ [l[j]]) ++ l.drop (j + 1) = l := by simp
  have hl : (l.take j).length = j := by simp; omega
  have h1 := closures_take (l.take j ++ [l[j]]) (l.drop (j + 1)) j (by simp; omega)
  rw [e] at h1
  rw [h1, closures_snoc, List.getD_eq_getElem?_getD, List.getElem?_append_right (by rw [closures_len]; omega), closures_len, hl]
  simp

theorem closures_low {l : List Oper} {j i : Nat} (hj : j < l.length) (hi : i < j) : (closures (l.take j)).getD i [] = (closures l).getD i [] := by
  have h1 := closures_take (l.take j) (l.drop j) i (by simp; omega)
  rw [List.take_append_drop] at h1
  exact h1.symm

theorem mem_closures {l : List Oper} {j i : Nat} {o : Oper} (ho : l[j]? = some o) (h : i ∈ (closures l).getD j []) :
    ∃ e ∈ o.after.toList, Region.binds .any e = true ∧ (i = e.on ∨ i ∈ (closures l).getD e.on []) := by
  obtain ⟨hj, rfl⟩ := List.getElem?_eq_some_iff.1 ho
  rw [closures_at hj] at h
  simp only [closeOne, List.mem_eraseDups, List.mem_flatMap, List.mem_filter, List.mem_cons] at h
  obtain ⟨e', ⟨he, hb⟩, h⟩ := h
  refine ⟨e', he, hb, ?_⟩
  rcases h with h | h
  · exact .inl h
  · refine .inr ?_
    by_cases hlt : e'.on < j
    · rw [← closures_low hj hlt]; exact h
    · rw [List.getD_eq_getElem?_getD, List.getElem?_eq_none (by rw [closures_len]; simp; omega)] at h
      simp at h

theorem closures_mem {l : List Oper} {j : Nat} {o : Oper} (ho : l[j]? = some o) {e : Edge} (he : e ∈ o.after.toList) (hb : Region.binds .any e = true) : e.on ∈ (closures l).getD j [] := by
  obtain ⟨hj, rfl⟩ := List.getElem?_eq_some_iff.1 ho
  rw [closures_at hj]
  simp only [closeOne, List.mem_eraseDups, List.mem_flatMap, List.mem_filter, List.mem_cons]
  exact ⟨e, ⟨he, hb⟩, .inl rfl⟩
end Go.Sx
