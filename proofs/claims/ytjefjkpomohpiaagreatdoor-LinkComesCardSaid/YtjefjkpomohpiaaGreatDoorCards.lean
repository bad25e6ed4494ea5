/-
  DERIVED. GIVEN WITH THE SEED: THE CARDS: each row of YtjefjkpomohpiaaGreatDoorRows.lean that lists a variable, with what it lists TIED to the program's text (the seventh form; the later family's looks); each row that meets fmt, with fmt's text TOLD by the authors' own Lean function (tested against real Go, not proved from fmt's source: count such statements apart). THE CARD IS WHAT COUNTS. Prove the row's statement (the work); the ties are given (YtjefjkpomohpiaaGreatDoorTie.lean); close each card by the builder's one call (the guide's Derived/Test/ToyasCard.lean, 'card_holds'). Laid BY PROGRAM, IN A SANDBOX (cutbox-door.mjs). By AI agents, Wed Nov 11 2026. No macro, syntax, notation, axiom, sorry.
-/
import Derived.Test.YtjefjkpomohpiaaGreatDoorRows
import GoSem.ClaimSeven
namespace Go.Proofs.YtjefjkpomohpiaaGreatDoor
namespace Rows

/-- THE TIED CARD OF 'sundiallaw20.LinkComes'. -/
def linkComesCard : Claim7 := { stood := { row := linkComesRow, standIns := [], harness := (true, "d605812b39df15ac20cea7b626b119cd925768c6c47bdf235c682bd4423c6e69"), looks := false }, kinds := [], alts := [], laidByText := true, laidKinds := [.data, .data, .data], laidTests := true, laidLooks := .later }
def LinkComesCardSaid : Prop := Claim7.holds Tryz.pinned (.plain (OpenSpec.ofChange linkComesSpec)) linkComesCard

/-- THE SECOND FORM's CARD OF 'sundiallaw20.LinkComes'. -/
def linkComesUptoCard : Claim7 := { stood := { row := linkComesUptoRow, standIns := [], harness := (true, "d605812b39df15ac20cea7b626b119cd925768c6c47bdf235c682bd4423c6e69"), looks := false }, kinds := [], alts := [], laidByText := true, laidKinds := [.data, .data, .data], laidTests := true, laidLooks := .later }
def LinkComesUptoCardSaid : Prop := Claim7.holds Tryz.pinned (.plain (OpenSpec.upto linkComesSpec)) linkComesUptoCard
end Rows
end Go.Proofs.YtjefjkpomohpiaaGreatDoor
