/- The specification's Begin. -/
import Derived.Test.YtdeaiefhegjalaaBund13j
import Derived.Test.YtdeaiefhegjalaaBund12bf
namespace Go.Proofs.Ytdeaiefhegjalaa.cos
open Go Go.RowKit Go.Proofs.Ytdeaiefhegjalaa.base Go.Proofs.Ytdeaiefhegjalaa.pairs Go.Proofs.Ytdeaiefhegjalaa.ords Go.Proofs.Ytdeaiefhegjalaa.lay Go.Proofs.Ytdeaiefhegjalaa.wds
set_option linter.unusedVariables false
set_option linter.unusedSimpArgs false

def beginR (c : Co) (ops : List Od) : Co × List Wd × Int := if coordOk c = true then beginS c ops else (c, [], 0)
/-- one who decides, words and a number: all new, each apart from the other -/
def RetB (w : World) (r : Co × List Wd × Int) (e : Ending) (w' : World) : Prop := ∃ vs F g m cap q, e = .returned (.tuple #[.agg vs.toArray, .slice (some ⟨g, 0, none⟩) m cap, .int .i64 r.2.2]) ∧ coordR.own w' vs r.1 F ∧ OwnG 124 wordR w' (.slice (some ⟨g, 0, none⟩) m cap) r.2.1 q ∧ (∀ k ∈ F, w.heap.size ≤ k) ∧ (∀ k ∈ g :: blocksOf q, w.heap.size ≤ k ∧ k ∉ F) ∧ Below w.heap.size w w'
end Go.Proofs.Ytdeaiefhegjalaa.cos
