/-
  DERIVED. GIVEN WITH THE SEED: THE CARDS: each row of YtlkgicaajenhaaaDoorRows.lean that lists a variable, with what it lists TIED to the program's text (the seventh form; the later family's looks); each row that meets fmt, with fmt's text TOLD by the authors' own Lean function (tested against real Go, not proved from fmt's source: count such statements apart). THE CARD IS WHAT COUNTS. Prove the row's statement (the work); the ties are given (YtlkgicaajenhaaaDoorTie.lean); close each card by the builder's one call (the guide's Derived/Test/ToyasCard.lean, 'card_holds'). Laid BY PROGRAM, IN A SANDBOX (cutbox-door.mjs). By AI agents, Wed Nov 11 2026. No macro, syntax, notation, axiom, sorry.
-/
import Derived.Test.YtlkgicaajenhaaaDoorRows
import GoSem.ClaimSeven
namespace Go.Proofs.YtlkgicaajenhaaaDoor
namespace Rows

/-- THE TIED CARD OF 'bradawllaw07.RupFollows'. -/
def rupFollowsCard : Claim7 := { stood := { row := rupFollowsRow, standIns := [], harness := (true, "fb5a961a293f70445d0aa082583191f81a611583ce987f2d870939315004cb34"), looks := false }, kinds := [], alts := [], laidByText := true, laidKinds := [.data, .data, .data], laidTests := true, laidLooks := .later }
def RupFollowsCardSaid : Prop := Claim7.holds Tryd.pinned (.plain (OpenSpec.ofChange rupFollowsSpec)) rupFollowsCard

/-- THE TIED CARD OF 'bradawllaw07.RupHolds'. -/
def rupHoldsCard : Claim7 := { stood := { row := rupHoldsRow, standIns := [], harness := (true, "fb5a961a293f70445d0aa082583191f81a611583ce987f2d870939315004cb34"), looks := false }, kinds := [], alts := [], laidByText := true, laidKinds := [.data, .data, .data], laidTests := true, laidLooks := .later }
def RupHoldsCardSaid : Prop := Claim7.holds Tryd.pinned (.plain (OpenSpec.ofChange rupHoldsSpec)) rupHoldsCard

/-- THE TIED CARD OF 'bradawllaw07.RupRemoves'. -/
def rupRemovesCard : Claim7 := { stood := { row := rupRemovesRow, standIns := [], harness := (true, "fb5a961a293f70445d0aa082583191f81a611583ce987f2d870939315004cb34"), looks := false }, kinds := [], alts := [], laidByText := true, laidKinds := [.data, .data, .data], laidTests := true, laidLooks := .later }
def RupRemovesCardSaid : Prop := Claim7.holds Tryd.pinned (.plain (OpenSpec.ofChange rupRemovesSpec)) rupRemovesCard

/-- THE TIED CARD OF 'bradawllaw07.RupWith'. -/
def rupWithCard : Claim7 := { stood := { row := rupWithRow, standIns := [], harness := (true, "fb5a961a293f70445d0aa082583191f81a611583ce987f2d870939315004cb34"), looks := false }, kinds := [], alts := [], laidByText := true, laidKinds := [.data, .data, .data], laidTests := true, laidLooks := .later }
def RupWithCardSaid : Prop := Claim7.holds Tryd.pinned (.plain (OpenSpec.ofChange rupWithSpec)) rupWithCard

/-- THE TIED CARD OF 'bradawllaw07.RupMore'. -/
def rupMoreCard : Claim7 := { stood := { row := rupMoreRow, standIns := [], harness := (true, "fb5a961a293f70445d0aa082583191f81a611583ce987f2d870939315004cb34"), looks := false }, kinds := [], alts := [], laidByText := true, laidKinds := [.data, .data, .data], laidTests := true, laidLooks := .later }
def RupMoreCardSaid : Prop := Claim7.holds Tryd.pinned (.plain (OpenSpec.ofChange rupMoreSpec)) rupMoreCard

/-- THE TIED CARD OF 'bradawllaw07.RupOrders'. -/
def rupOrdersCard : Claim7 := { stood := { row := rupOrdersRow, standIns := [], harness := (true, "fb5a961a293f70445d0aa082583191f81a611583ce987f2d870939315004cb34"), looks := false }, kinds := [], alts := [], laidByText := true, laidKinds := [.data, .data, .data], laidTests := true, laidLooks := .later }
def RupOrdersCardSaid : Prop := Claim7.holds Tryd.pinned (.plain (OpenSpec.ofChange rupOrdersSpec)) rupOrdersCard

/-- THE SECOND FORM's CARD OF 'bradawllaw07.RupFollows'. -/
def rupFollowsUptoCard : Claim7 := { stood := { row := rupFollowsUptoRow, standIns := [], harness := (true, "fb5a961a293f70445d0aa082583191f81a611583ce987f2d870939315004cb34"), looks := false }, kinds := [], alts := [], laidByText := true, laidKinds := [.data, .data, .data], laidTests := true, laidLooks := .later }
def RupFollowsUptoCardSaid : Prop := Claim7.holds Tryd.pinned (.plain (OpenSpec.upto rupFollowsSpec)) rupFollowsUptoCard

/-- THE SECOND FORM's CARD OF 'bradawllaw07.RupHolds'. -/
def rupHoldsUptoCard : Claim7 := { stood := { row := rupHoldsUptoRow, standIns := [], harness := (true, "fb5a961a293f70445d0aa082583191f81a611583ce987f2d870939315004cb34"), looks := false }, kinds := [], alts := [], laidByText := true, laidKinds := [.data, .data, .data], laidTests := true, laidLooks := .later }
def RupHoldsUptoCardSaid : Prop := Claim7.holds Tryd.pinned (.plain (OpenSpec.upto rupHoldsSpec)) rupHoldsUptoCard

/-- THE SECOND FORM's CARD OF 'bradawllaw07.RupRemoves'. -/
def rupRemovesUptoCard : Claim7 := { stood := { row := rupRemovesUptoRow, standIns := [], harness := (true, "fb5a961a293f70445d0aa082583191f81a611583ce987f2d870939315004cb34"), looks := false }, kinds := [], alts := [], laidByText := true, laidKinds := [.data, .data, .data], laidTests := true, laidLooks := .later }
def RupRemovesUptoCardSaid : Prop := Claim7.holds Tryd.pinned (.plain (OpenSpec.upto rupRemovesSpec)) rupRemovesUptoCard

/-- THE SECOND FORM's CARD OF 'bradawllaw07.RupWith'. -/
def rupWithUptoCard : Claim7 := { stood := { row := rupWithUptoRow, standIns := [], harness := (true, "fb5a961a293f70445d0aa082583191f81a611583ce987f2d870939315004cb34"), looks := false }, kinds := [], alts := [], laidByText := true, laidKinds := [.data, .data, .data], laidTests := true, laidLooks := .later }
def RupWithUptoCardSaid : Prop := Claim7.holds Tryd.pinned (.plain (OpenSpec.upto rupWithSpec)) rupWithUptoCard

/-- THE SECOND FORM's CARD OF 'bradawllaw07.RupMore'. -/
def rupMoreUptoCard : Claim7 := { stood := { row := rupMoreUptoRow, standIns := [], harness := (true, "fb5a961a293f70445d0aa082583191f81a611583ce987f2d870939315004cb34"), looks := false }, kinds := [], alts := [], laidByText := true, laidKinds := [.data, .data, .data], laidTests := true, laidLooks := .later }
def RupMoreUptoCardSaid : Prop := Claim7.holds Tryd.pinned (.plain (OpenSpec.upto rupMoreSpec)) rupMoreUptoCard

/-- THE SECOND FORM's CARD OF 'bradawllaw07.RupOrders'. -/
def rupOrdersUptoCard : Claim7 := { stood := { row := rupOrdersUptoRow, standIns := [], harness := (true, "fb5a961a293f70445d0aa082583191f81a611583ce987f2d870939315004cb34"), looks := false }, kinds := [], alts := [], laidByText := true, laidKinds := [.data, .data, .data], laidTests := true, laidLooks := .later }
def RupOrdersUptoCardSaid : Prop := Claim7.holds Tryd.pinned (.plain (OpenSpec.upto rupOrdersSpec)) rupOrdersUptoCard
end Rows
end Go.Proofs.YtlkgicaajenhaaaDoor
