/-
  DERIVED. GIVEN WITH THE SEED: THE CARDS: each row of YtmdfkahodbfjnaaDoorRows.lean that lists a variable, with what it lists TIED to the program's text (the seventh form; the later family's looks); each row that meets fmt, with fmt's text TOLD by the authors' own Lean function (tested against real Go, not proved from fmt's source: count such statements apart). THE CARD IS WHAT COUNTS. Prove the row's statement (the work); the ties are given (YtmdfkahodbfjnaaDoorTie.lean); close each card by the builder's one call (the guide's Derived/Test/ToyasCard.lean, 'card_holds'). Laid BY PROGRAM, IN A SANDBOX (cutbox-door.mjs). By AI agents, Wed Nov 11 2026. No macro, syntax, notation, axiom, sorry.
-/
import Derived.Test.YtmdfkahodbfjnaaDoorRows
import GoSem.ClaimSeven
namespace Go.Proofs.YtmdfkahodbfjnaaDoor
namespace Rows

/-- THE TIED CARD OF 'glossatorlaw1.PositionReference'. -/
def positionReferenceCard : Claim7 := { stood := { row := positionReferenceRow, standIns := [], harness := (true, "2cebf41736b09a78bb67db3d1f6fbea497a39b137f245177b812e6df33e48d50"), looks := false }, kinds := [], alts := [], laidByText := true, laidKinds := [.data, .pinned], laidTests := true, laidLooks := .later }
def PositionReferenceCardSaid : Prop := Claim7.holds Tryd.pinned (.plain (OpenSpec.ofChange positionReferenceSpec)) positionReferenceCard

/-- THE TIED CARD OF 'glossatorkeep1.PositionRoundTrip'. -/
def positionRoundTripCard : Claim7 := { stood := { row := positionRoundTripRow, standIns := [], harness := (true, "2cebf41736b09a78bb67db3d1f6fbea497a39b137f245177b812e6df33e48d50"), looks := false }, kinds := [], alts := [], laidByText := true, laidKinds := [.data, .pinned], laidTests := true, laidLooks := .later }
def PositionRoundTripCardSaid : Prop := Claim7.holds Tryd.pinned (.plain (OpenSpec.ofChange positionRoundTripSpec)) positionRoundTripCard

/-- THE TIED CARD OF 'glossatorkeep1.PositionMonotone'. -/
def positionMonotoneCard : Claim7 := { stood := { row := positionMonotoneRow, standIns := [], harness := (true, "2cebf41736b09a78bb67db3d1f6fbea497a39b137f245177b812e6df33e48d50"), looks := false }, kinds := [], alts := [], laidByText := true, laidKinds := [.data, .pinned], laidTests := true, laidLooks := .later }
def PositionMonotoneCardSaid : Prop := Claim7.holds Tryd.pinned (.plain (OpenSpec.ofChange positionMonotoneSpec)) positionMonotoneCard

/-- THE TIED CARD OF 'glossatorkeep1.PositionLines'. -/
def positionLinesCard : Claim7 := { stood := { row := positionLinesRow, standIns := [], harness := (true, "2cebf41736b09a78bb67db3d1f6fbea497a39b137f245177b812e6df33e48d50"), looks := false }, kinds := [], alts := [], laidByText := true, laidKinds := [.data, .pinned], laidTests := true, laidLooks := .later }
def PositionLinesCardSaid : Prop := Claim7.holds Tryd.pinned (.plain (OpenSpec.ofChange positionLinesSpec)) positionLinesCard

/-- THE SECOND FORM's CARD OF 'glossatorlaw1.PositionReference'. -/
def positionReferenceUptoCard : Claim7 := { stood := { row := positionReferenceUptoRow, standIns := [], harness := (true, "2cebf41736b09a78bb67db3d1f6fbea497a39b137f245177b812e6df33e48d50"), looks := false }, kinds := [], alts := [], laidByText := true, laidKinds := [.data, .pinned], laidTests := true, laidLooks := .later }
def PositionReferenceUptoCardSaid : Prop := Claim7.holds Tryd.pinned (.plain (OpenSpec.upto positionReferenceSpec)) positionReferenceUptoCard

/-- THE SECOND FORM's CARD OF 'glossatorkeep1.PositionRoundTrip'. -/
def positionRoundTripUptoCard : Claim7 := { stood := { row := positionRoundTripUptoRow, standIns := [], harness := (true, "2cebf41736b09a78bb67db3d1f6fbea497a39b137f245177b812e6df33e48d50"), looks := false }, kinds := [], alts := [], laidByText := true, laidKinds := [.data, .pinned], laidTests := true, laidLooks := .later }
def PositionRoundTripUptoCardSaid : Prop := Claim7.holds Tryd.pinned (.plain (OpenSpec.upto positionRoundTripSpec)) positionRoundTripUptoCard

/-- THE SECOND FORM's CARD OF 'glossatorkeep1.PositionMonotone'. -/
def positionMonotoneUptoCard : Claim7 := { stood := { row := positionMonotoneUptoRow, standIns := [], harness := (true, "2cebf41736b09a78bb67db3d1f6fbea497a39b137f245177b812e6df33e48d50"), looks := false }, kinds := [], alts := [], laidByText := true, laidKinds := [.data, .pinned], laidTests := true, laidLooks := .later }
def PositionMonotoneUptoCardSaid : Prop := Claim7.holds Tryd.pinned (.plain (OpenSpec.upto positionMonotoneSpec)) positionMonotoneUptoCard

/-- THE SECOND FORM's CARD OF 'glossatorkeep1.PositionLines'. -/
def positionLinesUptoCard : Claim7 := { stood := { row := positionLinesUptoRow, standIns := [], harness := (true, "2cebf41736b09a78bb67db3d1f6fbea497a39b137f245177b812e6df33e48d50"), looks := false }, kinds := [], alts := [], laidByText := true, laidKinds := [.data, .pinned], laidTests := true, laidLooks := .later }
def PositionLinesUptoCardSaid : Prop := Claim7.holds Tryd.pinned (.plain (OpenSpec.upto positionLinesSpec)) positionLinesUptoCard
end Rows
end Go.Proofs.YtmdfkahodbfjnaaDoor
