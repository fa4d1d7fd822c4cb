/- What the functions of the package of formulas answer. -/
import Derived.Test.YtomjkfglbdonlaaGreatDoorLit
import Derived.Test.YtomjkfglbdonlaaGreatDoorMem
import Derived.Test.YtomjkfglbdonlaaGreatDoorCnfMath
import Derived.Test.YtomjkfglbdonlaaGreatDoorOwn
import Derived.Deep.LoopGhost
namespace Go.Proofs.YtomjkfglbdonlaaGreatDoor
open Go.RowKit

end Go.Proofs.YtomjkfglbdonlaaGreatDoor
