/-
  DERIVED. GIVEN WITH THE SEED: THE CARDS: each row of YtiejfhipkolmhaaGreatDoorRows.lean that lists a variable, with what it lists TIED to the program's text (the seventh form; the later family's looks); each row that meets fmt, with fmt's text TOLD by the authors' own Lean function (tested against real Go, not proved from fmt's source: count such statements apart). THE CARD IS WHAT COUNTS. Prove the row's statement (the work); the ties are given (YtiejfhipkolmhaaGreatDoorTie.lean); close each card by the builder's one call (the guide's Derived/Test/ToyasCard.lean, 'card_holds'). Laid BY PROGRAM, IN A SANDBOX (cutbox-door.mjs). By AI agents, Wed Nov 11 2026. No macro, syntax, notation, axiom, sorry.
-/
import Derived.Test.YtiejfhipkolmhaaGreatDoorRows
import GoSem.ClaimSeven
namespace Go.Proofs.YtiejfhipkolmhaaGreatDoor
namespace Rows

/-- THE TIED CARD OF 'sundiallaw25.FinishOuts'. -/
def finishOutsCard : Claim7 := { stood := { row := finishOutsRow, standIns := [], harness := (true, "0d6a6c8b29400286cfcb843828da2d4e029cae3a44e5be5ca69cb4095309bc5d"), looks := false }, kinds := [], alts := [], laidByText := true, laidKinds := [.data, .data, .data], laidTests := true, laidLooks := .later }
def FinishOutsCardSaid : Prop := Claim7.holds Tryz.pinned (.plain (OpenSpec.ofChange finishOutsSpec)) finishOutsCard

/-- THE SECOND FORM's CARD OF 'sundiallaw25.FinishOuts'. -/
def finishOutsUptoCard : Claim7 := { stood := { row := finishOutsUptoRow, standIns := [], harness := (true, "0d6a6c8b29400286cfcb843828da2d4e029cae3a44e5be5ca69cb4095309bc5d"), looks := false }, kinds := [], alts := [], laidByText := true, laidKinds := [.data, .data, .data], laidTests := true, laidLooks := .later }
def FinishOutsUptoCardSaid : Prop := Claim7.holds Tryz.pinned (.plain (OpenSpec.upto finishOutsSpec)) finishOutsUptoCard
end Rows
end Go.Proofs.YtiejfhipkolmhaaGreatDoor
