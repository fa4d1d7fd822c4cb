/-
  DERIVED. GIVEN WITH THE SEED: THE CARDS: each row of YtomjkfglbdonlaaGreatDoorRows.lean that lists a variable, with what it lists TIED to the program's text (the seventh form; the later family's looks); each row that meets fmt, with fmt's text TOLD by the authors' own Lean function (tested against real Go, not proved from fmt's source: count such statements apart). THE CARD IS WHAT COUNTS. Prove the row's statement (the work); the ties are given (YtomjkfglbdonlaaGreatDoorTie.lean); close each card by the builder's one call (the guide's Derived/Test/ToyasCard.lean, 'card_holds'). Laid BY PROGRAM, IN A SANDBOX (cutbox-door.mjs). By AI agents, Wed Nov 11 2026. No macro, syntax, notation, axiom, sorry.
-/
import Derived.Test.YtomjkfglbdonlaaGreatDoorRows
import GoSem.ClaimSeven
namespace Go.Proofs.YtomjkfglbdonlaaGreatDoor
namespace Rows

/-- THE TIED CARD OF 'bradawllaw03.DimacsParses'. -/
def dimacsParsesCard : Claim7 := { stood := { row := dimacsParsesRow, standIns := [], harness := (true, "b6499d88acc53f73985074c6137f28cb32ef12125b103d45131a6c7a10c48853"), looks := true }, kinds := [], alts := [], laidByText := true, laidKinds := [.data, .data, .data, .data, .handle, .sentinel, .sentinel, .pinned], laidTests := true, laidLooks := .later }
def DimacsParsesCardSaid : Prop := Claim7.holds Tryz.pinned (.plain (OpenSpec.ofChange dimacsParsesSpec)) dimacsParsesCard

/-- THE TIED CARD OF 'bradawllaw03.DimacsCuts'. -/
def dimacsCutsCard : Claim7 := { stood := { row := dimacsCutsRow, standIns := [], harness := (true, "b6499d88acc53f73985074c6137f28cb32ef12125b103d45131a6c7a10c48853"), looks := true }, kinds := [], alts := [], laidByText := true, laidKinds := [.data, .data, .data, .data, .handle, .sentinel, .sentinel, .pinned], laidTests := true, laidLooks := .later }
def DimacsCutsCardSaid : Prop := Claim7.holds Tryz.pinned (.plain (OpenSpec.ofChange dimacsCutsSpec)) dimacsCutsCard

/-- THE TIED CARD OF 'bradawllaw03.DimacsHeaders'. -/
def dimacsHeadersCard : Claim7 := { stood := { row := dimacsHeadersRow, standIns := [], harness := (true, "b6499d88acc53f73985074c6137f28cb32ef12125b103d45131a6c7a10c48853"), looks := true }, kinds := [], alts := [], laidByText := true, laidKinds := [.data, .data, .data, .data, .handle, .sentinel, .sentinel, .pinned], laidTests := true, laidLooks := .later }
def DimacsHeadersCardSaid : Prop := Claim7.holds Tryz.pinned (.plain (OpenSpec.ofChange dimacsHeadersSpec)) dimacsHeadersCard

/-- THE SECOND FORM's CARD OF 'bradawllaw03.DimacsParses'. -/
def dimacsParsesUptoCard : Claim7 := { stood := { row := dimacsParsesUptoRow, standIns := [], harness := (true, "b6499d88acc53f73985074c6137f28cb32ef12125b103d45131a6c7a10c48853"), looks := true }, kinds := [], alts := [], laidByText := true, laidKinds := [.data, .data, .data, .data, .handle, .sentinel, .sentinel, .pinned], laidTests := true, laidLooks := .later }
def DimacsParsesUptoCardSaid : Prop := Claim7.holds Tryz.pinned (.plain (OpenSpec.upto dimacsParsesSpec)) dimacsParsesUptoCard

/-- THE SECOND FORM's CARD OF 'bradawllaw03.DimacsCuts'. -/
def dimacsCutsUptoCard : Claim7 := { stood := { row := dimacsCutsUptoRow, standIns := [], harness := (true, "b6499d88acc53f73985074c6137f28cb32ef12125b103d45131a6c7a10c48853"), looks := true }, kinds := [], alts := [], laidByText := true, laidKinds := [.data, .data, .data, .data, .handle, .sentinel, .sentinel, .pinned], laidTests := true, laidLooks := .later }
def DimacsCutsUptoCardSaid : Prop := Claim7.holds Tryz.pinned (.plain (OpenSpec.upto dimacsCutsSpec)) dimacsCutsUptoCard

/-- THE SECOND FORM's CARD OF 'bradawllaw03.DimacsHeaders'. -/
def dimacsHeadersUptoCard : Claim7 := { stood := { row := dimacsHeadersUptoRow, standIns := [], harness := (true, "b6499d88acc53f73985074c6137f28cb32ef12125b103d45131a6c7a10c48853"), looks := true }, kinds := [], alts := [], laidByText := true, laidKinds := [.data, .data, .data, .data, .handle, .sentinel, .sentinel, .pinned], laidTests := true, laidLooks := .later }
def DimacsHeadersUptoCardSaid : Prop := Claim7.holds Tryz.pinned (.plain (OpenSpec.upto dimacsHeadersSpec)) dimacsHeadersUptoCard
end Rows
end Go.Proofs.YtomjkfglbdonlaaGreatDoor
