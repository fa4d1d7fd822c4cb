/-
  No cell of these rows narrows 'for every input' (looked for: loops, veiled, ifaces, maps, wideKeys, modest, calm, conditions, laid).
  DERIVED. THE GIVEN ROWS OF THIS SEAT. 4 by the template 'for every input the law returns true; each argument reads behind the call as it read before'; 0 by the template 'total and deterministic' (their statements: YtfmcgodgflpggaaTotals.lean).
  GIVEN WITH THE SEED: the statements are not yours to turn. If you find one false, say at which input.
  Laid BY PROGRAM, IN A SANDBOX (cutbox-rows.mjs): the forced cells as the released guide's own fill.sh prints them over the translation 2a6ab14dcd6027f2… (all of the seat's roots in one cut). By AI agents, Wed Nov 11 2026. No macro, syntax, notation, axiom, sorry.
-/
import Derived.Test.YtfmcgodgflpggaaChecked
import GoSem.Claim
import GoSem.ClaimJoined
import GoSem.ClaimMapViews
import Derived.JoinedTies
import Derived.KernelRfl
namespace Go.Proofs.Ytfmcgodgflpggaa
/- THE CELL 'sum', in the pinned program and in every row, IS THE sha256 OF THE DUMP (.gsa) THAT YtfmcgodgflpggaaProg.lean LOADS. Nothing in Lean hashes anything: it is a label: what it is worth is what the hold of that sum in a sandbox is worth. -/
noncomputable def Try.pinned : Pinned := { name := "ytfmcgodgflpggaa", sum := "2a6ab14dcd6027f27330a662ebe81d644c304c567dbd945e1048deb18b1c4f43", checked := Try.checked }
namespace Rows
def none {H : Type} : Left H := { results := [], args := [] }

/-- 'bradawllaw13.WatchUnits': WHATEVER THE INPUT: true; the input reads as it did. -/
def watchUnitsSpec : ChangeSpec := { name := "watchUnits", fn := fun _ => fun
  | [d] => { results := [.lit (.bool true)], args := [d] }
  | _ => none }
def watchUnitsRow : OpenClaim := { program := "ytfmcgodgflpggaa", sum := "2a6ab14dcd6027f27330a662ebe81d644c304c567dbd945e1048deb18b1c4f43", func := "bradawl/bradawllaw13.WatchUnits", spec := "watchUnits", unfollowed := true, recurses := true, apart := false }
def WatchUnitsSaid : Prop := watchUnitsRow.holds Try.pinned (OpenSpec.ofChange watchUnitsSpec)

/-- ITS FALSE NEIGHBOUR: 'it returns false'. Refute it at one input. -/
def watchUnitsWrong : ChangeSpec := { name := "watchUnits", fn := fun _ => fun
  | [d] => { results := [.lit (.bool false)], args := [d] }
  | _ => none }
def WatchUnitsWrongFalsely : Prop := watchUnitsRow.holds Try.pinned (OpenSpec.ofChange watchUnitsWrong)

/-- 'bradawllaw13.WatchOrders': WHATEVER THE INPUT: true; the input reads as it did. -/
def watchOrdersSpec : ChangeSpec := { name := "watchOrders", fn := fun _ => fun
  | [d1, d2, d3] => { results := [.lit (.bool true)], args := [d1, d2, d3] }
  | _ => none }
def watchOrdersRow : OpenClaim := { program := "ytfmcgodgflpggaa", sum := "2a6ab14dcd6027f27330a662ebe81d644c304c567dbd945e1048deb18b1c4f43", func := "bradawl/bradawllaw13.WatchOrders", spec := "watchOrders", unfollowed := true, recurses := true, apart := false }
def WatchOrdersSaid : Prop := watchOrdersRow.holds Try.pinned (OpenSpec.ofChange watchOrdersSpec)

/-- ITS FALSE NEIGHBOUR: 'it returns false'. Refute it at one input. -/
def watchOrdersWrong : ChangeSpec := { name := "watchOrders", fn := fun _ => fun
  | [d1, d2, d3] => { results := [.lit (.bool false)], args := [d1, d2, d3] }
  | _ => none }
def WatchOrdersWrongFalsely : Prop := watchOrdersRow.holds Try.pinned (OpenSpec.ofChange watchOrdersWrong)

/-- 'bradawllaw13.WatchFull': WHATEVER THE INPUT: true; the input reads as it did. -/
def watchFullSpec : ChangeSpec := { name := "watchFull", fn := fun _ => fun
  | [d1, d2] => { results := [.lit (.bool true)], args := [d1, d2] }
  | _ => none }
def watchFullRow : OpenClaim := { program := "ytfmcgodgflpggaa", sum := "2a6ab14dcd6027f27330a662ebe81d644c304c567dbd945e1048deb18b1c4f43", func := "bradawl/bradawllaw13.WatchFull", spec := "watchFull", unfollowed := true, recurses := true, apart := false }
def WatchFullSaid : Prop := watchFullRow.holds Try.pinned (OpenSpec.ofChange watchFullSpec)

/-- ITS FALSE NEIGHBOUR: 'it returns false'. Refute it at one input. -/
def watchFullWrong : ChangeSpec := { name := "watchFull", fn := fun _ => fun
  | [d1, d2] => { results := [.lit (.bool false)], args := [d1, d2] }
  | _ => none }
def WatchFullWrongFalsely : Prop := watchFullRow.holds Try.pinned (OpenSpec.ofChange watchFullWrong)

/-- 'bradawllaw13.WatchVisits': WHATEVER THE INPUT: true; the input reads as it did. -/
def watchVisitsSpec : ChangeSpec := { name := "watchVisits", fn := fun _ => fun
  | [d1, d2] => { results := [.lit (.bool true)], args := [d1, d2] }
  | _ => none }
def watchVisitsRow : OpenClaim := { program := "ytfmcgodgflpggaa", sum := "2a6ab14dcd6027f27330a662ebe81d644c304c567dbd945e1048deb18b1c4f43", func := "bradawl/bradawllaw13.WatchVisits", spec := "watchVisits", unfollowed := true, recurses := true, apart := false }
def WatchVisitsSaid : Prop := watchVisitsRow.holds Try.pinned (OpenSpec.ofChange watchVisitsSpec)

/-- ITS FALSE NEIGHBOUR: 'it returns false'. Refute it at one input. -/
def watchVisitsWrong : ChangeSpec := { name := "watchVisits", fn := fun _ => fun
  | [d1, d2] => { results := [.lit (.bool false)], args := [d1, d2] }
  | _ => none }
def WatchVisitsWrongFalsely : Prop := watchVisitsRow.holds Try.pinned (OpenSpec.ofChange watchVisitsWrong)

/- THE SECOND FORM. 'bulk': how many values and letters a reading holds, each counted each time it is reached (what is shared counts as often as it is met; a slice's spare places count too). A statement '..UptoSaid' is the law's where the arguments, and the package variables that the reading takes, are together of bulk at most 1048576: NARROWER than '..Said'. Prove '..Said' where nothing that the law and all that it calls make is longer than what came in: it says more and counts as full. Else prove '..UptoSaid'. A law counts once. -/
mutual
def uptoBulk {H : Type} : DataW H → Nat
  | .lit (.string bytes) => bytes.length + 1
  | .lit _ => 1
  | .nil => 1
  | .ptr d => uptoBulk d + 1
  | .slice elems spare => uptoBulkAll elems + uptoBulkAll spare + 1
  | .agg parts => uptoBulkAll parts + 1
  | .iface _ d => uptoBulk d + 1
  | .map entries => uptoBulkEntries entries + 1
  | .held _ => 1
def uptoBulkAll {H : Type} : List (DataW H) → Nat
  | [] => 0
  | d :: r => uptoBulk d + uptoBulkAll r
def uptoBulkEntries {H : Type} : List (Lit × DataW H) → Nat
  | [] => 0
  | x :: r => uptoBulkEntry x + uptoBulkEntries r
def uptoBulkEntry {H : Type} : Lit × DataW H → Nat
  | (.string bytes, d) => bytes.length + uptoBulk d + 1
  | (_, d) => uptoBulk d + 1
 end
def uptoSmall : (H : Type) → List (DataW H) → Bool := fun _ ds => decide (uptoBulkAll ds ≤ 1048576)
def OpenSpec.upto (s : _root_.Go.ChangeSpec) : _root_.Go.OpenSpec := { _root_.Go.OpenSpec.ofChange s with cond := some uptoSmall }

/-- 'bradawllaw13.WatchUnits', WHERE WHAT IT READS IS OF BULK AT MOST 1048576: true; the input reads as it did. -/
def watchUnitsUptoRow : OpenClaim := { program := "ytfmcgodgflpggaa", sum := "2a6ab14dcd6027f27330a662ebe81d644c304c567dbd945e1048deb18b1c4f43", func := "bradawl/bradawllaw13.WatchUnits", spec := "watchUnits", unfollowed := true, recurses := true, apart := false, narrowed := true }
def WatchUnitsUptoSaid : Prop := watchUnitsUptoRow.holds Try.pinned (OpenSpec.upto watchUnitsSpec)

/-- 'bradawllaw13.WatchOrders', WHERE WHAT IT READS IS OF BULK AT MOST 1048576: true; the input reads as it did. -/
def watchOrdersUptoRow : OpenClaim := { program := "ytfmcgodgflpggaa", sum := "2a6ab14dcd6027f27330a662ebe81d644c304c567dbd945e1048deb18b1c4f43", func := "bradawl/bradawllaw13.WatchOrders", spec := "watchOrders", unfollowed := true, recurses := true, apart := false, narrowed := true }
def WatchOrdersUptoSaid : Prop := watchOrdersUptoRow.holds Try.pinned (OpenSpec.upto watchOrdersSpec)

/-- 'bradawllaw13.WatchFull', WHERE WHAT IT READS IS OF BULK AT MOST 1048576: true; the input reads as it did. -/
def watchFullUptoRow : OpenClaim := { program := "ytfmcgodgflpggaa", sum := "2a6ab14dcd6027f27330a662ebe81d644c304c567dbd945e1048deb18b1c4f43", func := "bradawl/bradawllaw13.WatchFull", spec := "watchFull", unfollowed := true, recurses := true, apart := false, narrowed := true }
def WatchFullUptoSaid : Prop := watchFullUptoRow.holds Try.pinned (OpenSpec.upto watchFullSpec)

/-- 'bradawllaw13.WatchVisits', WHERE WHAT IT READS IS OF BULK AT MOST 1048576: true; the input reads as it did. -/
def watchVisitsUptoRow : OpenClaim := { program := "ytfmcgodgflpggaa", sum := "2a6ab14dcd6027f27330a662ebe81d644c304c567dbd945e1048deb18b1c4f43", func := "bradawl/bradawllaw13.WatchVisits", spec := "watchVisits", unfollowed := true, recurses := true, apart := false, narrowed := true }
def WatchVisitsUptoSaid : Prop := watchVisitsUptoRow.holds Try.pinned (OpenSpec.upto watchVisitsSpec)

end Rows
end Go.Proofs.Ytfmcgodgflpggaa
