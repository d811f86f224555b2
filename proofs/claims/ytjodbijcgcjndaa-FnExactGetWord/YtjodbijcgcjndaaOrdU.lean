/- The specification's orders: what is met, what is done, at which shard. -/
import Derived.Test.YtjodbijcgcjndaaOrdT
import Derived.Test.YtjodbijcgcjndaaHash
namespace Go.Proofs.Ytjodbijcgcjndaa.ords
open Go Go.RowKit Go.Proofs.Ytjodbijcgcjndaa.base Go.Proofs.Ytjodbijcgcjndaa.pairs
set_option linter.unusedVariables false
set_option linter.unusedSimpArgs false

theorem meets_drop (m : List Pr) (l : List Od) (k : Nat) (h : k < l.length) : meets m (l.drop k) = (meet1 m l[k] && meets m (l.drop (k + 1))) := by
  rw [List.drop_eq_getElem_cons h]; rfl


end Go.Proofs.Ytjodbijcgcjndaa.ords
