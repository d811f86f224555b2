/- hash walks -/
import Derived.Test.YtjodbijcgcjndaaRows
import Derived.Test.YtjodbijcgcjndaaBase
import Derived.Test.YtjodbijcgcjndaaApp
namespace Go.Proofs.Ytjodbijcgcjndaa.hash
open Go.RowKit Go.Proofs.Ytjodbijcgcjndaa.base
set_option linter.unusedVariables false
set_option linter.unusedSimpArgs false


end Go.Proofs.Ytjodbijcgcjndaa.hash
