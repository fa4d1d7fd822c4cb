/-
  DERIVED. GIVEN WITH THE SEED: THE CARDS: each row of YteolgfakhkeedaaDoorRows.lean that lists a variable, with what it lists TIED to the program's text (the seventh form; the later family's looks); each row that meets fmt, with fmt's text TOLD by the authors' own Lean function (tested against real Go, not proved from fmt's source: count such statements apart). THE CARD IS WHAT COUNTS. Prove the row's statement (the work); the ties are given (YteolgfakhkeedaaDoorTie.lean); close each card by the builder's one call (the guide's Derived/Test/ToyasCard.lean, 'card_holds'). Laid BY PROGRAM, IN A SANDBOX (cutbox-door.mjs). By AI agents, Wed Nov 11 2026. No macro, syntax, notation, axiom, sorry.
-/
import Derived.Test.YteolgfakhkeedaaDoorRows
import GoSem.ClaimSeven
namespace Go.Proofs.YteolgfakhkeedaaDoor
namespace Rows

/-- THE TIED CARD OF 'bradawllaw03.DimacsBack'. -/
def dimacsBackCard : Claim7 := { stood := { row := dimacsBackRow, standIns := [], harness := (true, "4c8c4007cdf1021094dade21a31af8f5756ade5c04d661001f047da388f205d8"), looks := true }, kinds := [], alts := [], laidByText := true, laidKinds := [.data, .data, .data, .data, .pinned], laidTests := true, laidLooks := .later }
def DimacsBackCardSaid : Prop := Claim7.holds Tryd.pinned (.plain (OpenSpec.ofChange dimacsBackSpec)) dimacsBackCard

/-- THE TIED CARD OF 'bradawllaw03.DimacsBlanks'. -/
def dimacsBlanksCard : Claim7 := { stood := { row := dimacsBlanksRow, standIns := [], harness := (true, "4c8c4007cdf1021094dade21a31af8f5756ade5c04d661001f047da388f205d8"), looks := true }, kinds := [], alts := [], laidByText := true, laidKinds := [.data, .data, .data, .data, .pinned], laidTests := true, laidLooks := .later }
def DimacsBlanksCardSaid : Prop := Claim7.holds Tryd.pinned (.plain (OpenSpec.ofChange dimacsBlanksSpec)) dimacsBlanksCard

/-- THE TIED CARD OF 'bradawllaw03.DimacsLines'. -/
def dimacsLinesCard : Claim7 := { stood := { row := dimacsLinesRow, standIns := [], harness := (true, "4c8c4007cdf1021094dade21a31af8f5756ade5c04d661001f047da388f205d8"), looks := true }, kinds := [], alts := [], laidByText := true, laidKinds := [.data, .data, .data, .data, .handle, .pinned], laidTests := true, laidLooks := .later }
def DimacsLinesCardSaid : Prop := Claim7.holds Tryd.pinned (.plain (OpenSpec.ofChange dimacsLinesSpec)) dimacsLinesCard

/-- THE SECOND FORM's CARD OF 'bradawllaw03.DimacsBack'. -/
def dimacsBackUptoCard : Claim7 := { stood := { row := dimacsBackUptoRow, standIns := [], harness := (true, "4c8c4007cdf1021094dade21a31af8f5756ade5c04d661001f047da388f205d8"), looks := true }, kinds := [], alts := [], laidByText := true, laidKinds := [.data, .data, .data, .data, .pinned], laidTests := true, laidLooks := .later }
def DimacsBackUptoCardSaid : Prop := Claim7.holds Tryd.pinned (.plain (OpenSpec.upto dimacsBackSpec)) dimacsBackUptoCard

/-- THE SECOND FORM's CARD OF 'bradawllaw03.DimacsBlanks'. -/
def dimacsBlanksUptoCard : Claim7 := { stood := { row := dimacsBlanksUptoRow, standIns := [], harness := (true, "4c8c4007cdf1021094dade21a31af8f5756ade5c04d661001f047da388f205d8"), looks := true }, kinds := [], alts := [], laidByText := true, laidKinds := [.data, .data, .data, .data, .pinned], laidTests := true, laidLooks := .later }
def DimacsBlanksUptoCardSaid : Prop := Claim7.holds Tryd.pinned (.plain (OpenSpec.upto dimacsBlanksSpec)) dimacsBlanksUptoCard

/-- THE SECOND FORM's CARD OF 'bradawllaw03.DimacsLines'. -/
def dimacsLinesUptoCard : Claim7 := { stood := { row := dimacsLinesUptoRow, standIns := [], harness := (true, "4c8c4007cdf1021094dade21a31af8f5756ade5c04d661001f047da388f205d8"), looks := true }, kinds := [], alts := [], laidByText := true, laidKinds := [.data, .data, .data, .data, .handle, .pinned], laidTests := true, laidLooks := .later }
def DimacsLinesUptoCardSaid : Prop := Claim7.holds Tryd.pinned (.plain (OpenSpec.upto dimacsLinesSpec)) dimacsLinesUptoCard
end Rows
end Go.Proofs.YteolgfakhkeedaaDoor
