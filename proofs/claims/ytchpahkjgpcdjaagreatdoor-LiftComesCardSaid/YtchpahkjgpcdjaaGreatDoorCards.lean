/-
  DERIVED. GIVEN WITH THE SEED: THE CARDS: each row of YtchpahkjgpcdjaaGreatDoorRows.lean that lists a variable, with what it lists TIED to the program's text (the seventh form; the later family's looks); each row that meets fmt, with fmt's text TOLD by the authors' own Lean function (tested against real Go, not proved from fmt's source: count such statements apart). THE CARD IS WHAT COUNTS. Prove the row's statement (the work); the ties are given (YtchpahkjgpcdjaaGreatDoorTie.lean); close each card by the builder's one call (the guide's Derived/Test/ToyasCard.lean, 'card_holds'). Laid BY PROGRAM, IN A SANDBOX (cutbox-door.mjs). By AI agents, Wed Nov 11 2026. No macro, syntax, notation, axiom, sorry.
-/
import Derived.Test.YtchpahkjgpcdjaaGreatDoorRows
import GoSem.ClaimSeven
namespace Go.Proofs.YtchpahkjgpcdjaaGreatDoor
namespace Rows

/-- THE TIED CARD OF 'sundiallaw21.LiftComes'. -/
def liftComesCard : Claim7 := { stood := { row := liftComesRow, standIns := [], harness := (true, "235dd57c4991f9664399d1184eece775c1d331c308dd3ee8fa25fc6364cea86f"), looks := true }, kinds := [], alts := [], laidByText := true, laidKinds := [.data, .data, .data], laidTests := true, laidLooks := .later }
def LiftComesCardSaid : Prop := Claim7.holds Tryz.pinned (.plain (OpenSpec.ofChange liftComesSpec)) liftComesCard

/-- THE SECOND FORM's CARD OF 'sundiallaw21.LiftComes'. -/
def liftComesUptoCard : Claim7 := { stood := { row := liftComesUptoRow, standIns := [], harness := (true, "235dd57c4991f9664399d1184eece775c1d331c308dd3ee8fa25fc6364cea86f"), looks := true }, kinds := [], alts := [], laidByText := true, laidKinds := [.data, .data, .data], laidTests := true, laidLooks := .later }
def LiftComesUptoCardSaid : Prop := Claim7.holds Tryz.pinned (.plain (OpenSpec.upto liftComesSpec)) liftComesUptoCard
end Rows
end Go.Proofs.YtchpahkjgpcdjaaGreatDoor
