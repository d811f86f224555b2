/- hash walks -/
import Derived.Test.YtooiinicnkhlbaaRows
import Derived.Test.YtooiinicnkhlbaaBase
import Derived.Test.YtooiinicnkhlbaaApp
namespace Go.Proofs.Ytooiinicnkhlbaa.hash
open Go.RowKit Go.Proofs.Ytooiinicnkhlbaa.base
set_option linter.unusedVariables false
set_option linter.unusedSimpArgs false


end Go.Proofs.Ytooiinicnkhlbaa.hash
