/-
  DERIVED. GIVEN WITH THE SEED: THE CARDS: each row of YtjeifnhfdbkkdaaGreatDoorRows.lean that lists a variable, with what it lists TIED to the program's text (the seventh form; the later family's looks); each row that meets fmt, with fmt's text TOLD by the authors' own Lean function (tested against real Go, not proved from fmt's source: count such statements apart). THE CARD IS WHAT COUNTS. Prove the row's statement (the work); the ties are given (YtjeifnhfdbkkdaaGreatDoorTie.lean); close each card by the builder's one call (the guide's Derived/Test/ToyasCard.lean, 'card_holds'). Laid BY PROGRAM, IN A SANDBOX (cutbox-door.mjs). By AI agents, Wed Nov 11 2026. No macro, syntax, notation, axiom, sorry.
-/
import Derived.Test.YtjeifnhfdbkkdaaGreatDoorRows
import GoSem.ClaimSeven
namespace Go.Proofs.YtjeifnhfdbkkdaaGreatDoor
namespace Rows

/-- THE TIED CARD OF 'sundiallaw26.WalkTakes'. -/
def walkTakesCard : Claim7 := { stood := { row := walkTakesRow, standIns := [], harness := (true, "f5a6ad1fb18ba063b7e0da6ba23c91e0848f02623283043f27df00672d1ec22e"), looks := false }, kinds := [], alts := [], laidByText := true, laidKinds := [.data, .data, .data], laidTests := true, laidLooks := .later }
def WalkTakesCardSaid : Prop := Claim7.holds Tryz.pinned (.plain (OpenSpec.ofChange walkTakesSpec)) walkTakesCard

/-- THE SECOND FORM's CARD OF 'sundiallaw26.WalkTakes'. -/
def walkTakesUptoCard : Claim7 := { stood := { row := walkTakesUptoRow, standIns := [], harness := (true, "f5a6ad1fb18ba063b7e0da6ba23c91e0848f02623283043f27df00672d1ec22e"), looks := false }, kinds := [], alts := [], laidByText := true, laidKinds := [.data, .data, .data], laidTests := true, laidLooks := .later }
def WalkTakesUptoCardSaid : Prop := Claim7.holds Tryz.pinned (.plain (OpenSpec.upto walkTakesSpec)) walkTakesUptoCard
end Rows
end Go.Proofs.YtjeifnhfdbkkdaaGreatDoor
