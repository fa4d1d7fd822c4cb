/- What the functions of the package of formulas answer. -/
import Derived.Test.YtlkgicaajenhaaaDoorLit
import Derived.Test.YtlkgicaajenhaaaDoorMem
import Derived.Test.YtlkgicaajenhaaaDoorCnfMath
import Derived.Test.YtlkgicaajenhaaaDoorOwn
import Derived.Deep.LoopGhost
namespace Go.Proofs.YtlkgicaajenhaaaDoor
open Go.RowKit

end Go.Proofs.YtlkgicaajenhaaaDoor
