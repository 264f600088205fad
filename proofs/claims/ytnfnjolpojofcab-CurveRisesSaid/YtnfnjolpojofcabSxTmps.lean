/- Which temporaries an operation looks at. -/
import Derived.Test.YtnfnjolpojofcabSxMono
namespace Go.Sx

def AOpd.tmps : AOpd → List Nat
  | .tmp t => [t]
  | .const _ => []

def optTmps : Option AOpd → List Nat
  | some x => x.tmps
  | none => []

def AOp.tmps : AOp → List Nat
  | .move x | .box x | .load _ x | .nilCheck x | .neg x | .not x | .toInt _ x | .strStr x | .bytesToStr x | .strToBytes x | .makeIface _ x | .fieldAddr _ x | .field _ _ x | .extract x _ | .len _ x | .range x | .nextStr x => x.tmps
  | .pick c a b => c.tmps ++ (a.tmps ++ b.tmps)
  | .build _ ps => ps.flatMap fun p => p.2.2.tmps
  | .buildSlice _ xs | .minmax _ xs => xs.flatMap AOpd.tmps
  | .store _ a x | .bin _ _ a x | .eqAgg _ _ a x | .makeSlice _ _ a x | .indexAddr _ a x | .indexArr _ _ a x | .indexAgg _ _ _ a x | .indexStr a x | .append _ _ _ a x | .appendStr a x | .copy _ a x => a.tmps ++ x.tmps
  | .makeFunc _ a b => a.flatMap AOpd.tmps ++ b.flatMap AOpd.tmps
  | .slice _ _ x lo hi | .sliceArr _ _ x lo hi => x.tmps ++ (optTmps lo ++ optTmps hi)
  | .call f xs => f.tmps ++ xs.flatMap AOpd.tmps
  | .lenArr _ | .bad => []

variable {ρ ρ' : List AVal}

theorem opd_congr {x : AOpd} (h : ∀ t ∈ x.tmps, tget ρ' t = tget ρ t) : opd ρ' x = opd ρ x := by
  cases x with
  | tmp t => exact h t (by simp [AOpd.tmps])
  | const v => rfl

theorem opds_congr {xs : List AOpd} (h : ∀ t ∈ xs.flatMap AOpd.tmps, tget ρ' t = tget ρ t) : xs.map (opd ρ') = xs.map (opd ρ) :=
  List.map_congr_left fun x hx => opd_congr fun t ht => h t (List.mem_flatMap.2 ⟨x, hx, ht⟩)

theorem aev_congr {op : AOp} {H : Heap} {n : Nat} (h : ∀ t ∈ op.tmps, tget ρ' t = tget ρ t) : aev op ρ' H n = aev op ρ H n := by
  cases op <;> simp only [AOp.tmps, List.mem_append, or_imp, forall_and] at h <;> try rfl
  case pick c a b => simp only [aev, opd_congr h.1, opd_congr h.2.1, opd_congr h.2.2]
  case build z ps =>
    have : (ps.map fun (o, m, x) => (o, m, opd ρ' x)) = ps.map fun (o, m, x) => (o, m, opd ρ x) :=
      List.map_congr_left fun p hp => by
        obtain ⟨o, m, x⟩ := p
        have := opd_congr (x := x) fun t ht => h t (List.mem_flatMap.2 ⟨_, hp, ht⟩)
        simp only [this]
    simp only [aev, this]
  case buildSlice sz xs => simp only [aev, opds_congr h]
  case minmax mx xs => simp only [aev, opds_congr h]
  case makeFunc f a b => simp only [aev, opds_congr h.1, opds_congr h.2]
  case slice str sz x lo hi =>
    have h1 := opd_congr h.1
    cases lo <;> cases hi <;> simp only [optTmps] at h
    · simp only [aev, h1]
    · have h3 := opd_congr h.2.2
      simp only [aev, h1, h3]
    · have h2 := opd_congr h.2.1
      simp only [aev, h1, h2]
    · have h2 := opd_congr h.2.1
      have h3 := opd_congr h.2.2
      simp only [aev, h1, h2, h3]
  all_goals first
    | (simp only [aev, opd_congr h]; done)
    | (simp only [aev, opd_congr h.1, opd_congr h.2]; done)
end Go.Sx
