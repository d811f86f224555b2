/- The specification's orders: what is met, what is done, at which shard. -/
import Derived.Test.YtmpggohilmngpaaOrdT
import Derived.Test.YtmpggohilmngpaaHash
namespace Go.Proofs.Ytmpggohilmngpaa.ords
open Go Go.RowKit Go.Proofs.Ytmpggohilmngpaa.base Go.Proofs.Ytmpggohilmngpaa.pairs
set_option linter.unusedVariables false
set_option linter.unusedSimpArgs false

theorem meets_drop (m : List Pr) (l : List Od) (k : Nat) (h : k < l.length) : meets m (l.drop k) = (meet1 m l[k] && meets m (l.drop (k + 1))) := by
  rw [List.drop_eq_getElem_cons h]; rfl


end Go.Proofs.Ytmpggohilmngpaa.ords
