/- The specification's union. -/
import Derived.Test.YteiokccimlcmpaaPairV
namespace Go.Proofs.Yteiokccimlcmpaa.pairs
open Go Go.RowKit Go.Proofs.Yteiokccimlcmpaa.base
set_option linter.unusedVariables false
set_option linter.unusedSimpArgs false

theorem unionOf_snoc (a b : List Pr) (k : Nat) (h : k < b.length) : unionOf a (b.take (k + 1)) = putKey b[k].1 b[k].2 (unionOf a (b.take k)) := by
  unfold unionOf; rw [take_snocP b k h, List.foldl_append]; rfl

end Go.Proofs.Yteiokccimlcmpaa.pairs
