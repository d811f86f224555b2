/- The program's one who decides: a new life. -/
import Derived.Test.YtdeaiefhegjalaaBund12bg
import Derived.Test.YtdeaiefhegjalaaBund12bc
import Derived.Test.YtdeaiefhegjalaaBund12au
import Derived.Test.YtdeaiefhegjalaaBund12bf
import Derived.Deep.RegionHeldLaw
namespace Go.Proofs.Ytdeaiefhegjalaa.cos
open Go Go.RowKit Go.Proofs.Ytdeaiefhegjalaa.base Go.Proofs.Ytdeaiefhegjalaa.pairs Go.Proofs.Ytdeaiefhegjalaa.ords Go.Proofs.Ytdeaiefhegjalaa.lay Go.Proofs.Ytdeaiefhegjalaa.wds
set_option linter.unusedVariables false
set_option linter.unusedSimpArgs false

/-- how many choices are left -/
def leftC (ln : Nat) (sure keep : Int) : Nat := (sure + min (max keep 0) ((ln : Int) - sure)).toNat
def crashR (c : Co) (keep : Int) : Co := if coordOk c = true ∧ c.2.1 ≠ 900 then (c.1, c.2.1 + 1, 0, [], c.2.2.2.2.1.take (leftC c.2.2.2.2.1.length c.2.2.2.2.2 keep), (leftC c.2.2.2.2.1.length c.2.2.2.2.2 keep : Int)) else c
theorem leftC_le {ln : Nat} {sure keep : Int} (h : 0 ≤ sure ∧ sure ≤ (ln : Int)) : leftC ln sure keep ≤ ln ∧ ((leftC ln sure keep : Nat) : Int) = sure + min (max keep 0) ((ln : Int) - sure) := by
  unfold leftC; omega
theorem slg_take {α : Type} {R : Rd α} {w : World} {a : Option Addr} {n : Nat} {l : List α} (h : SlG R w a n l) (k : Nat) (hk : k ≤ n) : SlG R w a k (l.take k) := by
  obtain ⟨h1, h2, h3, h4⟩ := h
  refine ⟨by simp; omega, by omega, fun x hx => h3 x (List.mem_of_mem_take hx), fun h0 => ?_⟩
  obtain ⟨b, off, e, hc⟩ := h4 (by omega)
  refine ⟨b, off, e, fun i hi => ?_⟩
  simp only [List.getElem_take]
  exact hc i (by simp at hi; omega)
theorem cnt_crash {c : Co} {keep : Int} {N : Nat} (h : cntC c ≤ N) : cntC (crashR c keep) ≤ N := by
  unfold crashR
  split
  · unfold cntC at h ⊢
    simp only [List.map_nil, List.sum_nil, List.length_take]
    omega
  · exact h
end Go.Proofs.Ytdeaiefhegjalaa.cos
