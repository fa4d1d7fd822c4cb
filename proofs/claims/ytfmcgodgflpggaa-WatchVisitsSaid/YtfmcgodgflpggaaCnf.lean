/- What the functions of the package of formulas answer. -/
import Derived.Test.YtfmcgodgflpggaaLit
import Derived.Test.YtfmcgodgflpggaaMem
import Derived.Test.YtfmcgodgflpggaaCnfMath
import Derived.Test.YtfmcgodgflpggaaOwn
import Derived.Deep.LoopGhost
namespace Go.Proofs.Ytfmcgodgflpggaa
open Go.RowKit

end Go.Proofs.Ytfmcgodgflpggaa
