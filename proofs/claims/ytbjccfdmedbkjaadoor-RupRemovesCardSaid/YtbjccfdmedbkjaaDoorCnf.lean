/- What the functions of the package of formulas answer. -/
import Derived.Test.YtbjccfdmedbkjaaDoorLit
import Derived.Test.YtbjccfdmedbkjaaDoorMem
import Derived.Test.YtbjccfdmedbkjaaDoorCnfMath
import Derived.Test.YtbjccfdmedbkjaaDoorOwn
import Derived.Deep.LoopGhost
namespace Go.Proofs.YtbjccfdmedbkjaaDoor
open Go.RowKit

end Go.Proofs.YtbjccfdmedbkjaaDoor
