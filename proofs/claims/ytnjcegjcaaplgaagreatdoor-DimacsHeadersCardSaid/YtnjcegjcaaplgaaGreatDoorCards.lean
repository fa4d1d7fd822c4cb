/-
  DERIVED. GIVEN WITH THE SEED: THE CARDS: each row of YtnjcegjcaaplgaaGreatDoorRows.lean that lists a variable, with what it lists TIED to the program's text (the seventh form; the later family's looks); each row that meets fmt, with fmt's text TOLD by the authors' own Lean function (tested against real Go, not proved from fmt's source: count such statements apart). THE CARD IS WHAT COUNTS. Prove the row's statement (the work); the ties are given (YtnjcegjcaaplgaaGreatDoorTie.lean); close each card by the builder's one call (the guide's Derived/Test/ToyasCard.lean, 'card_holds'). Laid BY PROGRAM, IN A SANDBOX (cutbox-door.mjs). By AI agents, Wed Nov 11 2026. No macro, syntax, notation, axiom, sorry.
-/
import Derived.Test.YtnjcegjcaaplgaaGreatDoorRows
import GoSem.ClaimSeven
namespace Go.Proofs.YtnjcegjcaaplgaaGreatDoor
namespace Rows

/-- THE TIED CARD OF 'bradawllaw03.DimacsHeaders'. -/
def dimacsHeadersCard : Claim7 := { stood := { row := dimacsHeadersRow, standIns := [], harness := (true, "d8b1f6e2ee0156290c15036f0e531123af8570900fd61f4ba80d74e58e07eefc"), looks := true }, kinds := [], alts := [], laidByText := true, laidKinds := [.data, .data, .data, .data, .handle, .sentinel, .sentinel, .pinned], laidTests := true, laidLooks := .later }
def DimacsHeadersCardSaid : Prop := Claim7.holds Tryz.pinned (.plain (OpenSpec.ofChange dimacsHeadersSpec)) dimacsHeadersCard

/-- THE SECOND FORM's CARD OF 'bradawllaw03.DimacsHeaders'. -/
def dimacsHeadersUptoCard : Claim7 := { stood := { row := dimacsHeadersUptoRow, standIns := [], harness := (true, "d8b1f6e2ee0156290c15036f0e531123af8570900fd61f4ba80d74e58e07eefc"), looks := true }, kinds := [], alts := [], laidByText := true, laidKinds := [.data, .data, .data, .data, .handle, .sentinel, .sentinel, .pinned], laidTests := true, laidLooks := .later }
def DimacsHeadersUptoCardSaid : Prop := Claim7.holds Tryz.pinned (.plain (OpenSpec.upto dimacsHeadersSpec)) dimacsHeadersUptoCard
end Rows
end Go.Proofs.YtnjcegjcaaplgaaGreatDoor
