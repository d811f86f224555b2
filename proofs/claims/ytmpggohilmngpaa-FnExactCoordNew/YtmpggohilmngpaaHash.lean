/- hash walks -/
import Derived.Test.YtmpggohilmngpaaRows
import Derived.Test.YtmpggohilmngpaaBase
import Derived.Test.YtmpggohilmngpaaApp
namespace Go.Proofs.Ytmpggohilmngpaa.hash
open Go.RowKit Go.Proofs.Ytmpggohilmngpaa.base
set_option linter.unusedVariables false
set_option linter.unusedSimpArgs false


end Go.Proofs.Ytmpggohilmngpaa.hash
