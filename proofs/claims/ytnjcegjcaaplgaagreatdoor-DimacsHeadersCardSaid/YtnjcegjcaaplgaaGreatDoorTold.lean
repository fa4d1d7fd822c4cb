/- The text of a formula as a statement makes it. -/
import Derived.Test.YtnjcegjcaaplgaaGreatDoorPrint
namespace Go.Proofs.YtnjcegjcaaplgaaGreatDoor
open Go.RowKit
set_option linter.unusedSimpArgs false
set_option linter.unusedVariables false
set_option linter.unnecessarySimpa false

theorem str_add {P : Program} (a b c : List UInt8) (h : c = a ++ b) (ha : a.length ≤ 8000000) (hb : b.length ≤ 8000000) : ∀ w, (Op.stringOp .add ⟨a.toArray⟩ ⟨b.toArray⟩).run P w = .ok (.string ⟨c.toArray⟩) w :=
  fun w => by rw [h]; exact run_string_add_lists w a b (by omega) (by omega)
end Go.Proofs.YtnjcegjcaaplgaaGreatDoor
