/- What the functions of the package of formulas answer. -/
import Derived.Test.YtodaplgmpacliaaGreatDoorLit
import Derived.Test.YtodaplgmpacliaaGreatDoorMem
import Derived.Test.YtodaplgmpacliaaGreatDoorCnfMath
import Derived.Test.YtodaplgmpacliaaGreatDoorOwn
import Derived.Deep.LoopGhost
namespace Go.Proofs.YtodaplgmpacliaaGreatDoor
open Go.RowKit

end Go.Proofs.YtodaplgmpacliaaGreatDoor
