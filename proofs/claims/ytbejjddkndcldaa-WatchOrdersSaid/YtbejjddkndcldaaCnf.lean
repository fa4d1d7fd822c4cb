/- What the functions of the package of formulas answer. -/
import Derived.Test.YtbejjddkndcldaaLit
import Derived.Test.YtbejjddkndcldaaMem
import Derived.Test.YtbejjddkndcldaaCnfMath
import Derived.Test.YtbejjddkndcldaaOwn
import Derived.Deep.LoopGhost
namespace Go.Proofs.Ytbejjddkndcldaa
open Go.RowKit

end Go.Proofs.Ytbejjddkndcldaa
