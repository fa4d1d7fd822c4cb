/- What the functions of the package of formulas answer. -/
import Derived.Test.YtllgepabjglnaaaLit
import Derived.Test.YtllgepabjglnaaaMem
import Derived.Test.YtllgepabjglnaaaCnfMath
import Derived.Test.YtllgepabjglnaaaOwn
import Derived.Deep.LoopGhost
namespace Go.Proofs.Ytllgepabjglnaaa
open Go.RowKit

end Go.Proofs.Ytllgepabjglnaaa
