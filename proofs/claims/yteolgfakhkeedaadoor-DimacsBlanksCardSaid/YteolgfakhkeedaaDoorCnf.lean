/- What the functions of the package of formulas answer. -/
import Derived.Test.YteolgfakhkeedaaDoorLit
import Derived.Test.YteolgfakhkeedaaDoorMem
import Derived.Test.YteolgfakhkeedaaDoorCnfMath
import Derived.Test.YteolgfakhkeedaaDoorOwn
import Derived.Deep.LoopGhost
namespace Go.Proofs.YteolgfakhkeedaaDoor
open Go.RowKit

end Go.Proofs.YteolgfakhkeedaaDoor
