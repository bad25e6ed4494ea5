/-
  DERIVED. GIVEN WITH THE SEED: THE CARDS: each row of YtjmkbcdolkgcgaaDoorRows.lean that lists a variable, with what it lists TIED to the program's text (the seventh form; the later family's looks); each row that meets fmt, with fmt's text TOLD by the authors' own Lean function (tested against real Go, not proved from fmt's source: count such statements apart). THE CARD IS WHAT COUNTS. Prove the row's statement (the work); the ties are given (YtjmkbcdolkgcgaaDoorTie.lean); close each card by the builder's one call (the guide's Derived/Test/ToyasCard.lean, 'card_holds'). Laid BY PROGRAM, IN A SANDBOX (cutbox-door.mjs). By AI agents, Wed Nov 11 2026. No macro, syntax, notation, axiom, sorry.
-/
import Derived.Test.YtjmkbcdolkgcgaaDoorRows
import GoSem.ClaimSeven
namespace Go.Proofs.YtjmkbcdolkgcgaaDoor
namespace Rows

/-- THE TIED CARD OF 'sundiallaw09.PlaceTells'. -/
def placeTellsCard : Claim7 := { stood := { row := placeTellsRow, standIns := [], harness := (true, "3548fb20ecdea1fa1eee3e5bf454293ae7e415f726d8dc82fc69fc21cfd75752"), looks := false }, kinds := [], alts := [], laidByText := true, laidKinds := [.data, .data, .data, .data], laidTests := true, laidLooks := .later }
def PlaceTellsCardSaid : Prop := Claim7.holds Tryd.pinned (.plain (OpenSpec.ofChange placeTellsSpec)) placeTellsCard

/-- THE TIED CARD OF 'sundiallaw09.PlaceBack'. -/
def placeBackCard : Claim7 := { stood := { row := placeBackRow, standIns := [], harness := (true, "3548fb20ecdea1fa1eee3e5bf454293ae7e415f726d8dc82fc69fc21cfd75752"), looks := false }, kinds := [], alts := [], laidByText := true, laidKinds := [.data, .data, .data, .data], laidTests := true, laidLooks := .later }
def PlaceBackCardSaid : Prop := Claim7.holds Tryd.pinned (.plain (OpenSpec.ofChange placeBackSpec)) placeBackCard

/-- THE TIED CARD OF 'sundiallaw09.PlaceWords'. -/
def placeWordsCard : Claim7 := { stood := { row := placeWordsRow, standIns := [], harness := (true, "3548fb20ecdea1fa1eee3e5bf454293ae7e415f726d8dc82fc69fc21cfd75752"), looks := false }, kinds := [], alts := [], laidByText := true, laidKinds := [.data, .data, .data, .data], laidTests := true, laidLooks := .later }
def PlaceWordsCardSaid : Prop := Claim7.holds Tryd.pinned (.plain (OpenSpec.ofChange placeWordsSpec)) placeWordsCard

/-- THE SECOND FORM's CARD OF 'sundiallaw09.PlaceTells'. -/
def placeTellsUptoCard : Claim7 := { stood := { row := placeTellsUptoRow, standIns := [], harness := (true, "3548fb20ecdea1fa1eee3e5bf454293ae7e415f726d8dc82fc69fc21cfd75752"), looks := false }, kinds := [], alts := [], laidByText := true, laidKinds := [.data, .data, .data, .data], laidTests := true, laidLooks := .later }
def PlaceTellsUptoCardSaid : Prop := Claim7.holds Tryd.pinned (.plain (OpenSpec.upto placeTellsSpec)) placeTellsUptoCard

/-- THE SECOND FORM's CARD OF 'sundiallaw09.PlaceBack'. -/
def placeBackUptoCard : Claim7 := { stood := { row := placeBackUptoRow, standIns := [], harness := (true, "3548fb20ecdea1fa1eee3e5bf454293ae7e415f726d8dc82fc69fc21cfd75752"), looks := false }, kinds := [], alts := [], laidByText := true, laidKinds := [.data, .data, .data, .data], laidTests := true, laidLooks := .later }
def PlaceBackUptoCardSaid : Prop := Claim7.holds Tryd.pinned (.plain (OpenSpec.upto placeBackSpec)) placeBackUptoCard

/-- THE SECOND FORM's CARD OF 'sundiallaw09.PlaceWords'. -/
def placeWordsUptoCard : Claim7 := { stood := { row := placeWordsUptoRow, standIns := [], harness := (true, "3548fb20ecdea1fa1eee3e5bf454293ae7e415f726d8dc82fc69fc21cfd75752"), looks := false }, kinds := [], alts := [], laidByText := true, laidKinds := [.data, .data, .data, .data], laidTests := true, laidLooks := .later }
def PlaceWordsUptoCardSaid : Prop := Claim7.holds Tryd.pinned (.plain (OpenSpec.upto placeWordsSpec)) placeWordsUptoCard
end Rows
end Go.Proofs.YtjmkbcdolkgcgaaDoor
