/- The program's functions on pairs: all their contracts, gathered. -/
import Derived.Test.YteiokccimlcmpaaPairTrio
import Derived.Test.YteiokccimlcmpaaPairD
import Derived.Test.YteiokccimlcmpaaPairE
import Derived.Test.YteiokccimlcmpaaPairG
