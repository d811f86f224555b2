/- The program's functions on pairs: all their contracts, gathered. -/
import Derived.Test.YtblgkcgmnmligaaPairTrio
import Derived.Test.YtblgkcgmnmligaaPairD
import Derived.Test.YtblgkcgmnmligaaPairE
import Derived.Test.YtblgkcgmnmligaaPairG
