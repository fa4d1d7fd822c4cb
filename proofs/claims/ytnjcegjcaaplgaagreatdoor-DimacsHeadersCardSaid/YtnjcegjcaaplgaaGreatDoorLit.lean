/- What each function of the package of literals answers, for the literals of any program: the world is left as it was. -/
import Derived.Test.YtnjcegjcaaplgaaGreatDoorLitMath
import Derived.Test.YtnjcegjcaaplgaaGreatDoorProg
import Derived.WalkKit
import Derived.Handy
import Derived.Lib.Hide
namespace Go.Proofs.YtnjcegjcaaplgaaGreatDoor
open Go.RowKit

theorem ret_bool {a b : Bool} (h : a = b) : Ending.returned (.bool a) = .returned (.bool b) := by rw [h]

theorem ret_int {k : IntKind} {a b : Int} (h : a = b) : Ending.returned (.int k a) = .returned (.int k b) := by rw [h]
end Go.Proofs.YtnjcegjcaaplgaaGreatDoor
