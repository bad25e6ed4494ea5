/-
  DERIVED. GIVEN WITH THE SEED: THE CARDS: each row of YtelnkbikgboblaaDoorRows.lean that lists a variable, with what it lists TIED to the program's text (the seventh form; the later family's looks); each row that meets fmt, with fmt's text TOLD by the authors' own Lean function (tested against real Go, not proved from fmt's source: count such statements apart). THE CARD IS WHAT COUNTS. Prove the row's statement (the work); the ties are given (YtelnkbikgboblaaDoorTie.lean); close each card by the builder's one call (the guide's Derived/Test/ToyasCard.lean, 'card_holds'). Laid BY PROGRAM, IN A SANDBOX (cutbox-door.mjs). By AI agents, Wed Nov 11 2026. No macro, syntax, notation, axiom, sorry.
-/
import Derived.Test.YtelnkbikgboblaaDoorRows
import GoSem.ClaimSeven
namespace Go.Proofs.YtelnkbikgboblaaDoor
namespace Rows

/-- THE TIED CARD OF 'sundiallaw29.ParkWaits'. -/
def parkWaitsCard : Claim7 := { stood := { row := parkWaitsRow, standIns := [], harness := (true, "5f28944c340b0602fde9d2de96a7959b27f431b9edc9d3cafbe587ae2152d410"), looks := false }, kinds := [], alts := [], laidByText := true, laidKinds := [.data, .data, .data], laidTests := true, laidLooks := .later }
def ParkWaitsCardSaid : Prop := Claim7.holds Tryd.pinned (.plain (OpenSpec.ofChange parkWaitsSpec)) parkWaitsCard

/-- THE SECOND FORM's CARD OF 'sundiallaw29.ParkWaits'. -/
def parkWaitsUptoCard : Claim7 := { stood := { row := parkWaitsUptoRow, standIns := [], harness := (true, "5f28944c340b0602fde9d2de96a7959b27f431b9edc9d3cafbe587ae2152d410"), looks := false }, kinds := [], alts := [], laidByText := true, laidKinds := [.data, .data, .data], laidTests := true, laidLooks := .later }
def ParkWaitsUptoCardSaid : Prop := Claim7.holds Tryd.pinned (.plain (OpenSpec.upto parkWaitsSpec)) parkWaitsUptoCard
end Rows
end Go.Proofs.YtelnkbikgboblaaDoor
