/- What the functions of the package of formulas answer. -/
import Derived.Test.YtkncndddednipaaLit
import Derived.Test.YtkncndddednipaaMem
import Derived.Test.YtkncndddednipaaCnfMath
import Derived.Test.YtkncndddednipaaOwn
import Derived.Deep.LoopGhost
namespace Go.Proofs.Ytkncndddednipaa
open Go.RowKit

end Go.Proofs.Ytkncndddednipaa
