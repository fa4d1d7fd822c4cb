/-
  DERIVED. GIVEN WITH THE SEED: THE CARDS: each row of YtdehlikmefpgnaaDoorRows.lean that lists a variable, with what it lists TIED to the program's text (the seventh form; the later family's looks); each row that meets fmt, with fmt's text TOLD by the authors' own Lean function (tested against real Go, not proved from fmt's source: count such statements apart). THE CARD IS WHAT COUNTS. Prove the row's statement (the work); the ties are given (YtdehlikmefpgnaaDoorTie.lean); close each card by the builder's one call (the guide's Derived/Test/ToyasCard.lean, 'card_holds'). Laid BY PROGRAM, IN A SANDBOX (cutbox-door.mjs). By AI agents, Wed Nov 11 2026. No macro, syntax, notation, axiom, sorry.
-/
import Derived.Test.YtdehlikmefpgnaaDoorRows
import GoSem.ClaimSeven
namespace Go.Proofs.YtdehlikmefpgnaaDoor
namespace Rows

/-- THE TIED CARD OF 'bradawllaw06.DratBack'. -/
def dratBackCard : Claim7 := { stood := { row := dratBackRow, standIns := [], harness := (true, "ad68e0ad4f2baefa742953dc0315db41be3de6135585aef3d4446a5e1db43529"), looks := true }, kinds := [], alts := [], laidByText := true, laidKinds := [.data, .data, .data, .sentinel, .sentinel], laidTests := true, laidLooks := .later }
def DratBackCardSaid : Prop := Claim7.holds Tryd.pinned (.plain (OpenSpec.ofChange dratBackSpec)) dratBackCard

/-- THE TIED CARD OF 'bradawllaw06.DratTexts'. -/
def dratTextsCard : Claim7 := { stood := { row := dratTextsRow, standIns := [], harness := (true, "ad68e0ad4f2baefa742953dc0315db41be3de6135585aef3d4446a5e1db43529"), looks := true }, kinds := [], alts := [], laidByText := true, laidKinds := [.data, .data, .data, .sentinel, .sentinel], laidTests := true, laidLooks := .later }
def DratTextsCardSaid : Prop := Claim7.holds Tryd.pinned (.plain (OpenSpec.ofChange dratTextsSpec)) dratTextsCard

/-- THE TIED CARD OF 'bradawllaw06.DratBytes'. -/
def dratBytesCard : Claim7 := { stood := { row := dratBytesRow, standIns := [], harness := (true, "ad68e0ad4f2baefa742953dc0315db41be3de6135585aef3d4446a5e1db43529"), looks := true }, kinds := [], alts := [], laidByText := true, laidKinds := [.data, .data, .data, .sentinel, .sentinel], laidTests := true, laidLooks := .later }
def DratBytesCardSaid : Prop := Claim7.holds Tryd.pinned (.plain (OpenSpec.ofChange dratBytesSpec)) dratBytesCard

/-- THE TIED CARD OF 'bradawllaw06.DratSames'. -/
def dratSamesCard : Claim7 := { stood := { row := dratSamesRow, standIns := [], harness := (true, "ad68e0ad4f2baefa742953dc0315db41be3de6135585aef3d4446a5e1db43529"), looks := true }, kinds := [], alts := [], laidByText := true, laidKinds := [.data, .data, .data, .sentinel, .sentinel], laidTests := true, laidLooks := .later }
def DratSamesCardSaid : Prop := Claim7.holds Tryd.pinned (.plain (OpenSpec.ofChange dratSamesSpec)) dratSamesCard

/-- THE TIED CARD OF 'bradawllaw06.DratRights'. -/
def dratRightsCard : Claim7 := { stood := { row := dratRightsRow, standIns := [], harness := (true, "ad68e0ad4f2baefa742953dc0315db41be3de6135585aef3d4446a5e1db43529"), looks := true }, kinds := [], alts := [], laidByText := true, laidKinds := [.data, .data, .data, .sentinel, .sentinel], laidTests := true, laidLooks := .later }
def DratRightsCardSaid : Prop := Claim7.holds Tryd.pinned (.plain (OpenSpec.ofChange dratRightsSpec)) dratRightsCard

/-- THE TIED CARD OF 'bradawllaw06.DratJoins'. -/
def dratJoinsCard : Claim7 := { stood := { row := dratJoinsRow, standIns := [], harness := (true, "ad68e0ad4f2baefa742953dc0315db41be3de6135585aef3d4446a5e1db43529"), looks := true }, kinds := [], alts := [], laidByText := true, laidKinds := [.data, .data, .data, .sentinel, .sentinel], laidTests := true, laidLooks := .later }
def DratJoinsCardSaid : Prop := Claim7.holds Tryd.pinned (.plain (OpenSpec.ofChange dratJoinsSpec)) dratJoinsCard

/-- THE TIED CARD OF 'bradawllaw06.DratNumbers'. -/
def dratNumbersCard : Claim7 := { stood := { row := dratNumbersRow, standIns := [], harness := (true, "ad68e0ad4f2baefa742953dc0315db41be3de6135585aef3d4446a5e1db43529"), looks := true }, kinds := [], alts := [], laidByText := true, laidKinds := [.data, .data, .data, .sentinel, .sentinel], laidTests := true, laidLooks := .later }
def DratNumbersCardSaid : Prop := Claim7.holds Tryd.pinned (.plain (OpenSpec.ofChange dratNumbersSpec)) dratNumbersCard

/-- THE SECOND FORM's CARD OF 'bradawllaw06.DratBack'. -/
def dratBackUptoCard : Claim7 := { stood := { row := dratBackUptoRow, standIns := [], harness := (true, "ad68e0ad4f2baefa742953dc0315db41be3de6135585aef3d4446a5e1db43529"), looks := true }, kinds := [], alts := [], laidByText := true, laidKinds := [.data, .data, .data, .sentinel, .sentinel], laidTests := true, laidLooks := .later }
def DratBackUptoCardSaid : Prop := Claim7.holds Tryd.pinned (.plain (OpenSpec.upto dratBackSpec)) dratBackUptoCard

/-- THE SECOND FORM's CARD OF 'bradawllaw06.DratTexts'. -/
def dratTextsUptoCard : Claim7 := { stood := { row := dratTextsUptoRow, standIns := [], harness := (true, "ad68e0ad4f2baefa742953dc0315db41be3de6135585aef3d4446a5e1db43529"), looks := true }, kinds := [], alts := [], laidByText := true, laidKinds := [.data, .data, .data, .sentinel, .sentinel], laidTests := true, laidLooks := .later }
def DratTextsUptoCardSaid : Prop := Claim7.holds Tryd.pinned (.plain (OpenSpec.upto dratTextsSpec)) dratTextsUptoCard

/-- THE SECOND FORM's CARD OF 'bradawllaw06.DratBytes'. -/
def dratBytesUptoCard : Claim7 := { stood := { row := dratBytesUptoRow, standIns := [], harness := (true, "ad68e0ad4f2baefa742953dc0315db41be3de6135585aef3d4446a5e1db43529"), looks := true }, kinds := [], alts := [], laidByText := true, laidKinds := [.data, .data, .data, .sentinel, .sentinel], laidTests := true, laidLooks := .later }
def DratBytesUptoCardSaid : Prop := Claim7.holds Tryd.pinned (.plain (OpenSpec.upto dratBytesSpec)) dratBytesUptoCard

/-- THE SECOND FORM's CARD OF 'bradawllaw06.DratSames'. -/
def dratSamesUptoCard : Claim7 := { stood := { row := dratSamesUptoRow, standIns := [], harness := (true, "ad68e0ad4f2baefa742953dc0315db41be3de6135585aef3d4446a5e1db43529"), looks := true }, kinds := [], alts := [], laidByText := true, laidKinds := [.data, .data, .data, .sentinel, .sentinel], laidTests := true, laidLooks := .later }
def DratSamesUptoCardSaid : Prop := Claim7.holds Tryd.pinned (.plain (OpenSpec.upto dratSamesSpec)) dratSamesUptoCard

/-- THE SECOND FORM's CARD OF 'bradawllaw06.DratRights'. -/
def dratRightsUptoCard : Claim7 := { stood := { row := dratRightsUptoRow, standIns := [], harness := (true, "ad68e0ad4f2baefa742953dc0315db41be3de6135585aef3d4446a5e1db43529"), looks := true }, kinds := [], alts := [], laidByText := true, laidKinds := [.data, .data, .data, .sentinel, .sentinel], laidTests := true, laidLooks := .later }
def DratRightsUptoCardSaid : Prop := Claim7.holds Tryd.pinned (.plain (OpenSpec.upto dratRightsSpec)) dratRightsUptoCard

/-- THE SECOND FORM's CARD OF 'bradawllaw06.DratJoins'. -/
def dratJoinsUptoCard : Claim7 := { stood := { row := dratJoinsUptoRow, standIns := [], harness := (true, "ad68e0ad4f2baefa742953dc0315db41be3de6135585aef3d4446a5e1db43529"), looks := true }, kinds := [], alts := [], laidByText := true, laidKinds := [.data, .data, .data, .sentinel, .sentinel], laidTests := true, laidLooks := .later }
def DratJoinsUptoCardSaid : Prop := Claim7.holds Tryd.pinned (.plain (OpenSpec.upto dratJoinsSpec)) dratJoinsUptoCard

/-- THE SECOND FORM's CARD OF 'bradawllaw06.DratNumbers'. -/
def dratNumbersUptoCard : Claim7 := { stood := { row := dratNumbersUptoRow, standIns := [], harness := (true, "ad68e0ad4f2baefa742953dc0315db41be3de6135585aef3d4446a5e1db43529"), looks := true }, kinds := [], alts := [], laidByText := true, laidKinds := [.data, .data, .data, .sentinel, .sentinel], laidTests := true, laidLooks := .later }
def DratNumbersUptoCardSaid : Prop := Claim7.holds Tryd.pinned (.plain (OpenSpec.upto dratNumbersSpec)) dratNumbersUptoCard
end Rows
end Go.Proofs.YtdehlikmefpgnaaDoor
