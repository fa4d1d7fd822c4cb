/- What the functions of the package of formulas answer. -/
import Derived.Test.YtnjcegjcaaplgaaGreatDoorLit
import Derived.Test.YtnjcegjcaaplgaaGreatDoorMem
import Derived.Test.YtnjcegjcaaplgaaGreatDoorCnfMath
import Derived.Test.YtnjcegjcaaplgaaGreatDoorOwn
import Derived.Deep.LoopGhost
namespace Go.Proofs.YtnjcegjcaaplgaaGreatDoor
open Go.RowKit

end Go.Proofs.YtnjcegjcaaplgaaGreatDoor
