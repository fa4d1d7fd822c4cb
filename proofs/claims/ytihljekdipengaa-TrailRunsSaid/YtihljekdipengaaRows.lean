/-
  No cell of these rows narrows 'for every input' (looked for: loops, veiled, ifaces, maps, wideKeys, modest, calm, conditions, laid).
  DERIVED. THE GIVEN ROWS OF THIS SEAT. 4 by the template 'for every input the law returns true; each argument reads behind the call as it read before'; 0 by the template 'total and deterministic' (their statements: YtihljekdipengaaTotals.lean).
  GIVEN WITH THE SEED: the statements are not yours to turn. If you find one false, say at which input.
  Laid BY PROGRAM, IN A SANDBOX (cutbox-rows.mjs): the forced cells as the released guide's own fill.sh prints them over the translation 55da0902f92c0c52… (all of the seat's roots in one cut). By AI agents, Wed Nov 11 2026. No macro, syntax, notation, axiom, sorry.
-/
import Derived.Test.YtihljekdipengaaChecked
import GoSem.Claim
import GoSem.ClaimJoined
import GoSem.ClaimMapViews
import Derived.JoinedTies
import Derived.KernelRfl
namespace Go.Proofs.Ytihljekdipengaa
/- THE CELL 'sum', in the pinned program and in every row, IS THE sha256 OF THE DUMP (.gsa) THAT YtihljekdipengaaProg.lean LOADS. Nothing in Lean hashes anything: it is a label: what it is worth is what the hold of that sum in a sandbox is worth. -/
noncomputable def Try.pinned : Pinned := { name := "ytihljekdipengaa", sum := "55da0902f92c0c521cb24dbca7ba60adb34096d72a27bf503de576f60177791c", checked := Try.checked }
namespace Rows
def none {H : Type} : Left H := { results := [], args := [] }

/-- 'bradawllaw12.TrailRuns': WHATEVER THE INPUT: true; the input reads as it did. -/
def trailRunsSpec : ChangeSpec := { name := "trailRuns", fn := fun _ => fun
  | [d1, d2] => { results := [.lit (.bool true)], args := [d1, d2] }
  | _ => none }
def trailRunsRow : OpenClaim := { program := "ytihljekdipengaa", sum := "55da0902f92c0c521cb24dbca7ba60adb34096d72a27bf503de576f60177791c", func := "bradawl/bradawllaw12.TrailRuns", spec := "trailRuns", apart := false }
def TrailRunsSaid : Prop := trailRunsRow.holds Try.pinned (OpenSpec.ofChange trailRunsSpec)

/-- ITS FALSE NEIGHBOUR: 'it returns false'. Refute it at one input. -/
def trailRunsWrong : ChangeSpec := { name := "trailRuns", fn := fun _ => fun
  | [d1, d2] => { results := [.lit (.bool false)], args := [d1, d2] }
  | _ => none }
def TrailRunsWrongFalsely : Prop := trailRunsRow.holds Try.pinned (OpenSpec.ofChange trailRunsWrong)

/-- 'bradawllaw12.TrailLevels': WHATEVER THE INPUT: true; the input reads as it did. -/
def trailLevelsSpec : ChangeSpec := { name := "trailLevels", fn := fun _ => fun
  | [d1, d2, d3] => { results := [.lit (.bool true)], args := [d1, d2, d3] }
  | _ => none }
def trailLevelsRow : OpenClaim := { program := "ytihljekdipengaa", sum := "55da0902f92c0c521cb24dbca7ba60adb34096d72a27bf503de576f60177791c", func := "bradawl/bradawllaw12.TrailLevels", spec := "trailLevels", apart := false }
def TrailLevelsSaid : Prop := trailLevelsRow.holds Try.pinned (OpenSpec.ofChange trailLevelsSpec)

/-- ITS FALSE NEIGHBOUR: 'it returns false'. Refute it at one input. -/
def trailLevelsWrong : ChangeSpec := { name := "trailLevels", fn := fun _ => fun
  | [d1, d2, d3] => { results := [.lit (.bool false)], args := [d1, d2, d3] }
  | _ => none }
def TrailLevelsWrongFalsely : Prop := trailLevelsRow.holds Try.pinned (OpenSpec.ofChange trailLevelsWrong)

/-- 'bradawllaw12.TrailOnce': WHATEVER THE INPUT: true; the input reads as it did. -/
def trailOnceSpec : ChangeSpec := { name := "trailOnce", fn := fun _ => fun
  | [d1, d2] => { results := [.lit (.bool true)], args := [d1, d2] }
  | _ => none }
def trailOnceRow : OpenClaim := { program := "ytihljekdipengaa", sum := "55da0902f92c0c521cb24dbca7ba60adb34096d72a27bf503de576f60177791c", func := "bradawl/bradawllaw12.TrailOnce", spec := "trailOnce", apart := false }
def TrailOnceSaid : Prop := trailOnceRow.holds Try.pinned (OpenSpec.ofChange trailOnceSpec)

/-- ITS FALSE NEIGHBOUR: 'it returns false'. Refute it at one input. -/
def trailOnceWrong : ChangeSpec := { name := "trailOnce", fn := fun _ => fun
  | [d1, d2] => { results := [.lit (.bool false)], args := [d1, d2] }
  | _ => none }
def TrailOnceWrongFalsely : Prop := trailOnceRow.holds Try.pinned (OpenSpec.ofChange trailOnceWrong)

/-- 'bradawllaw12.TrailPhases': WHATEVER THE INPUT: true; the input reads as it did. -/
def trailPhasesSpec : ChangeSpec := { name := "trailPhases", fn := fun _ => fun
  | [d1, d2, d3] => { results := [.lit (.bool true)], args := [d1, d2, d3] }
  | _ => none }
def trailPhasesRow : OpenClaim := { program := "ytihljekdipengaa", sum := "55da0902f92c0c521cb24dbca7ba60adb34096d72a27bf503de576f60177791c", func := "bradawl/bradawllaw12.TrailPhases", spec := "trailPhases", apart := false }
def TrailPhasesSaid : Prop := trailPhasesRow.holds Try.pinned (OpenSpec.ofChange trailPhasesSpec)

/-- ITS FALSE NEIGHBOUR: 'it returns false'. Refute it at one input. -/
def trailPhasesWrong : ChangeSpec := { name := "trailPhases", fn := fun _ => fun
  | [d1, d2, d3] => { results := [.lit (.bool false)], args := [d1, d2, d3] }
  | _ => none }
def TrailPhasesWrongFalsely : Prop := trailPhasesRow.holds Try.pinned (OpenSpec.ofChange trailPhasesWrong)

/- THE SECOND FORM. 'bulk': how many values and letters a reading holds, each counted each time it is reached (what is shared counts as often as it is met; a slice's spare places count too). A statement '..UptoSaid' is the law's where the arguments, and the package variables that the reading takes, are together of bulk at most 1048576: NARROWER than '..Said'. Prove '..Said' where nothing that the law and all that it calls make is longer than what came in: it says more and counts as full. Else prove '..UptoSaid'. A law counts once. -/
mutual
def uptoBulk {H : Type} : DataW H → Nat
  | .lit (.string bytes) => bytes.length + 1
  | .lit _ => 1
  | .nil => 1
  | .ptr d => uptoBulk d + 1
  | .slice elems spare => uptoBulkAll elems + uptoBulkAll spare + 1
  | .agg parts => uptoBulkAll parts + 1
  | .iface _ d => uptoBulk d + 1
  | .map entries => uptoBulkEntries entries + 1
  | .held _ => 1
def uptoBulkAll {H : Type} : List (DataW H) → Nat
  | [] => 0
  | d :: r => uptoBulk d + uptoBulkAll r
def uptoBulkEntries {H : Type} : List (Lit × DataW H) → Nat
  | [] => 0
  | x :: r => uptoBulkEntry x + uptoBulkEntries r
def uptoBulkEntry {H : Type} : Lit × DataW H → Nat
  | (.string bytes, d) => bytes.length + uptoBulk d + 1
  | (_, d) => uptoBulk d + 1
 end
def uptoSmall : (H : Type) → List (DataW H) → Bool := fun _ ds => decide (uptoBulkAll ds ≤ 1048576)
def OpenSpec.upto (s : _root_.Go.ChangeSpec) : _root_.Go.OpenSpec := { _root_.Go.OpenSpec.ofChange s with cond := some uptoSmall }

/-- 'bradawllaw12.TrailRuns', WHERE WHAT IT READS IS OF BULK AT MOST 1048576: true; the input reads as it did. -/
def trailRunsUptoRow : OpenClaim := { program := "ytihljekdipengaa", sum := "55da0902f92c0c521cb24dbca7ba60adb34096d72a27bf503de576f60177791c", func := "bradawl/bradawllaw12.TrailRuns", spec := "trailRuns", apart := false, narrowed := true }
def TrailRunsUptoSaid : Prop := trailRunsUptoRow.holds Try.pinned (OpenSpec.upto trailRunsSpec)

/-- 'bradawllaw12.TrailLevels', WHERE WHAT IT READS IS OF BULK AT MOST 1048576: true; the input reads as it did. -/
def trailLevelsUptoRow : OpenClaim := { program := "ytihljekdipengaa", sum := "55da0902f92c0c521cb24dbca7ba60adb34096d72a27bf503de576f60177791c", func := "bradawl/bradawllaw12.TrailLevels", spec := "trailLevels", apart := false, narrowed := true }
def TrailLevelsUptoSaid : Prop := trailLevelsUptoRow.holds Try.pinned (OpenSpec.upto trailLevelsSpec)

/-- 'bradawllaw12.TrailOnce', WHERE WHAT IT READS IS OF BULK AT MOST 1048576: true; the input reads as it did. -/
def trailOnceUptoRow : OpenClaim := { program := "ytihljekdipengaa", sum := "55da0902f92c0c521cb24dbca7ba60adb34096d72a27bf503de576f60177791c", func := "bradawl/bradawllaw12.TrailOnce", spec := "trailOnce", apart := false, narrowed := true }
def TrailOnceUptoSaid : Prop := trailOnceUptoRow.holds Try.pinned (OpenSpec.upto trailOnceSpec)

/-- 'bradawllaw12.TrailPhases', WHERE WHAT IT READS IS OF BULK AT MOST 1048576: true; the input reads as it did. -/
def trailPhasesUptoRow : OpenClaim := { program := "ytihljekdipengaa", sum := "55da0902f92c0c521cb24dbca7ba60adb34096d72a27bf503de576f60177791c", func := "bradawl/bradawllaw12.TrailPhases", spec := "trailPhases", apart := false, narrowed := true }
def TrailPhasesUptoSaid : Prop := trailPhasesUptoRow.holds Try.pinned (OpenSpec.upto trailPhasesSpec)

end Rows
end Go.Proofs.Ytihljekdipengaa
