/- What the functions of the package of formulas answer. -/
import Derived.Test.YthcpfaahcncfjaaGreatDoorLit
import Derived.Test.YthcpfaahcncfjaaGreatDoorMem
import Derived.Test.YthcpfaahcncfjaaGreatDoorCnfMath
import Derived.Test.YthcpfaahcncfjaaGreatDoorOwn
import Derived.Deep.LoopGhost
namespace Go.Proofs.YthcpfaahcncfjaaGreatDoor
open Go.RowKit

end Go.Proofs.YthcpfaahcncfjaaGreatDoor
