/- A part of the proof: the abstract semantics. -/
import Derived.Test.YtgikocfbedopmaaSxF
import Derived.Below
/- From what is known of a function to its walk from a world. -/
namespace Go.Sx
open Go Go.RowKit

/-- The world as it stands is kept and may be read. -/
def topG (w : World) : Ctx := { keep := fun b => b < w.heap.size, ro := fun b => b < w.heap.size, w0 := w }

theorem top_rel (P : Program) (w : World) : HR P (topG w) (fun _ => none) [] w :=
  ⟨fun r x h => by simp at h, fun r r' x x' p p' h => by simp at h, fun b hb => ⟨hb, rfl⟩, fun b hb => hb, Calm.refl w⟩

theorem Ans.walk {P : Program} {f : FuncId} {args : List AVal} {r : AVal} {LH' : Heap} (hA : Ans P f args [] r LH') {cargs : Array Value} {w : World} (hl : args.length = cargs.size)
    (hv : ∀ i, i < args.length → VR (topG w) (fun _ => none) (args.getD i .any) (cargs.getD i undef)) :
    Calls P f cargs w fun e w' => (∃ cv μ, e = .returned cv ∧ VR (topG w) μ r cv) ∧ Below w.heap.size w w' := by
  have h := (hA (topG w)).2 (fun _ => none) cargs w hl hv (top_rel P w) (fun r hr => by cases hr)
  have hF : Fw none = Fence.wide := rfl
  rw [hF] at h
  refine (callsIn_wide.1 h).mono fun e w' hp => ?_
  obtain ⟨v, cv, μ', H', rfl, ⟨rfl, _⟩, hvr, hH, _⟩ := hp
  refine ⟨⟨cv, μ', rfl, hvr⟩, hH.calm.1, hH.calm.2.1, hH.calm.2.2, ?_, fun k hk => (hH.kept k hk).2⟩
  by_cases h0 : w.heap.size = 0
  · omega
  · have := (hH.kept (w.heap.size - 1) (by show w.heap.size - 1 < w.heap.size; omega)).1
    omega

theorem Ans.walk_bool {P : Program} {f : FuncId} {args : List AVal} {b : Bool} {LH' : Heap} (hA : Ans P f args [] (.bool b) LH') {cargs : Array Value} {w : World} (hl : args.length = cargs.size)
    (hv : ∀ i, i < args.length → VR (topG w) (fun _ => none) (args.getD i .any) (cargs.getD i undef)) :
    Calls P f cargs w fun e w' => e = .returned (.bool b) ∧ Below w.heap.size w w' :=
  (hA.walk hl hv).mono fun e w' ⟨⟨cv, μ, he, hvr⟩, hb⟩ => by
    cases hvr; exact ⟨he, hb⟩

/-- A slice of integers that came in. -/
theorem top_ints {w : World} {μ : Mu} {k : IntKind} {a : Option Addr} {len cap : Nat} {zs : List Int}
    (h : (a = none ∧ len = 0 ∧ cap = 0 ∧ zs = []) ∨ ∃ x, a = some x ∧ len ≤ cap ∧ cap ≤ maxLen ∧ zs.length = cap ∧ (∀ i, i < zs.length → w.cell? (x.add i) = some (.int k (zs.getD i 0))) ∧ ∀ n ∈ zs, (Lit.int k n).wf = true) :
    VR (topG w) μ (.view ((zs.take len).map (.int k))) (.slice a len cap) := by
  rcases h with ⟨rfl, rfl, rfl, rfl⟩ | ⟨x, rfl, h1, h2, h3, h4, h5⟩
  · exact .viewnil none 0
  · by_cases h0 : len = 0
    · subst h0; exact .viewnil _ _
    · have hz : 0 < zs.length := by omega
      have hc := h4 0 hz
      obtain ⟨b, o, sp⟩ := x
      have hsp : sp = none ∧ b < w.heap.size := by
        simp only [World.cell?, Addr.add] at hc
        split at hc
        · rename_i c _ _ hh
          have := (Array.getElem?_eq_some_iff.1 hh).1
          cases sp <;> simp_all
        · cases hc
      obtain ⟨rfl, hb⟩ := hsp
      have hlen : ((zs.take len).map (AVal.int k)).length = len := by simp; omega
      have := VR.view (G := topG w) (μ := μ) ((zs.take len).map (.int k)) b o 1 cap (fun i _ => .int k (zs.getD i 0)) hb (by rw [hlen]; exact h1) (fun i hi => ?_) (fun i j hi hj => ?_) (fun i j hi hj => ?_)
      · rwa [hlen] at this
      · rw [hlen] at hi
        have : ((zs.take len).map (AVal.int k)).getD i .any = .int k (zs.getD i 0) := by
          simp [List.getD_eq_getElem?_getD, List.getElem?_map, List.getElem?_take, hi, show i < zs.length by omega]
        rw [this]; rfl
      · rw [hlen] at hi
        have := h4 i (by omega)
        obtain rfl : j = 0 := by omega
        show w.cell? _ = _
        by_cases hi0 : i = 0
        · subst hi0; simpa [Addr.add] using this
        · simpa [Addr.add, hi0] using this
      · rw [hlen] at hi
        have : ((zs.take len).map (AVal.int k)).getD i .any = .int k (zs.getD i 0) := by
          simp [List.getD_eq_getElem?_getD, List.getElem?_map, List.getElem?_take, hi, show i < zs.length by omega]
        rw [this, show j = 0 by omega]
        exact .int _ _
end Go.Sx
