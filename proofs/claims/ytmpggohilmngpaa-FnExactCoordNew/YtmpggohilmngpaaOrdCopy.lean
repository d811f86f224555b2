/- The specification's copy of orders. -/
import Derived.Test.YtmpggohilmngpaaOrdOwn
namespace Go.Proofs.Ytmpggohilmngpaa.wds
open Go Go.RowKit Go.Proofs.Ytmpggohilmngpaa.base Go.Proofs.Ytmpggohilmngpaa.pairs Go.Proofs.Ytmpggohilmngpaa.ords
set_option linter.unusedVariables false
set_option linter.unusedSimpArgs false

theorem append_nothing (w : World) (g c : Nat) (ty : TypeId) : (Builtin.append_ #[36, 36] ty #[.slice (some ⟨g, 0, none⟩) 0 0, .slice none 0 c]).run Try.prog w = .ok (.slice (some ⟨g, 0, none⟩) 0 0) w := by kernel_rfl

end Go.Proofs.Ytmpggohilmngpaa.wds
