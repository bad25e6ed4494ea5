/-
  DERIVED. GIVEN WITH THE SEED: THE CARDS: each row of YtickghidajpbnaaGreatDoorRows.lean that lists a variable, with what it lists TIED to the program's text (the seventh form; the later family's looks); each row that meets fmt, with fmt's text TOLD by the authors' own Lean function (tested against real Go, not proved from fmt's source: count such statements apart). THE CARD IS WHAT COUNTS. Prove the row's statement (the work); the ties are given (YtickghidajpbnaaGreatDoorTie.lean); close each card by the builder's one call (the guide's Derived/Test/ToyasCard.lean, 'card_holds'). Laid BY PROGRAM, IN A SANDBOX (cutbox-door.mjs). By AI agents, Wed Nov 11 2026. No macro, syntax, notation, axiom, sorry.
-/
import Derived.Test.YtickghidajpbnaaGreatDoorRows
import GoSem.ClaimSeven
namespace Go.Proofs.YtickghidajpbnaaGreatDoor
namespace Rows

/-- THE TIED CARD OF 'sundiallaw23.SettleOuts'. -/
def settleOutsCard : Claim7 := { stood := { row := settleOutsRow, standIns := [], harness := (true, "0bbb1d0498328905f234cb405b828e7432f0217321f1e14151a752cb4c4d2efd"), looks := false }, kinds := [], alts := [], laidByText := true, laidKinds := [.data, .data, .data], laidTests := true, laidLooks := .later }
def SettleOutsCardSaid : Prop := Claim7.holds Tryz.pinned (.plain (OpenSpec.ofChange settleOutsSpec)) settleOutsCard

/-- THE SECOND FORM's CARD OF 'sundiallaw23.SettleOuts'. -/
def settleOutsUptoCard : Claim7 := { stood := { row := settleOutsUptoRow, standIns := [], harness := (true, "0bbb1d0498328905f234cb405b828e7432f0217321f1e14151a752cb4c4d2efd"), looks := false }, kinds := [], alts := [], laidByText := true, laidKinds := [.data, .data, .data], laidTests := true, laidLooks := .later }
def SettleOutsUptoCardSaid : Prop := Claim7.holds Tryz.pinned (.plain (OpenSpec.upto settleOutsSpec)) settleOutsUptoCard
end Rows
end Go.Proofs.YtickghidajpbnaaGreatDoor
