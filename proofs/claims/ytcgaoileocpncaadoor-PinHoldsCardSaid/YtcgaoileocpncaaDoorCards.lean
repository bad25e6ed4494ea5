/-
  DERIVED. GIVEN WITH THE SEED: THE CARDS: each row of YtcgaoileocpncaaDoorRows.lean that lists a variable, with what it lists TIED to the program's text (the seventh form; the later family's looks); each row that meets fmt, with fmt's text TOLD by the authors' own Lean function (tested against real Go, not proved from fmt's source: count such statements apart). THE CARD IS WHAT COUNTS. Prove the row's statement (the work); the ties are given (YtcgaoileocpncaaDoorTie.lean); close each card by the builder's one call (the guide's Derived/Test/ToyasCard.lean, 'card_holds'). Laid BY PROGRAM, IN A SANDBOX (cutbox-door.mjs). By AI agents, Wed Nov 11 2026. No macro, syntax, notation, axiom, sorry.
-/
import Derived.Test.YtcgaoileocpncaaDoorRows
import GoSem.ClaimSeven
namespace Go.Proofs.YtcgaoileocpncaaDoor
namespace Rows

/-- THE TIED CARD OF 'sundiallaw13.PinHolds'. -/
def pinHoldsCard : Claim7 := { stood := { row := pinHoldsRow, standIns := [], harness := (true, "fd4615d4ad141fdadc6b6eabcf0aba674bd8ac6233a69f9c259c2ed6ec9c9491"), looks := false }, kinds := [], alts := [], laidByText := true, laidKinds := [.data, .data, .data], laidTests := true, laidLooks := .later }
def PinHoldsCardSaid : Prop := Claim7.holds Tryd.pinned (.plain (OpenSpec.ofChange pinHoldsSpec)) pinHoldsCard

/-- THE SECOND FORM's CARD OF 'sundiallaw13.PinHolds'. -/
def pinHoldsUptoCard : Claim7 := { stood := { row := pinHoldsUptoRow, standIns := [], harness := (true, "fd4615d4ad141fdadc6b6eabcf0aba674bd8ac6233a69f9c259c2ed6ec9c9491"), looks := false }, kinds := [], alts := [], laidByText := true, laidKinds := [.data, .data, .data], laidTests := true, laidLooks := .later }
def PinHoldsUptoCardSaid : Prop := Claim7.holds Tryd.pinned (.plain (OpenSpec.upto pinHoldsSpec)) pinHoldsUptoCard
end Rows
end Go.Proofs.YtcgaoileocpncaaDoor
