/-
  DERIVED. GIVEN WITH THE SEED: THE CARDS: each row of YtlagghghbpbcbaaGreatDoorRows.lean that lists a variable, with what it lists TIED to the program's text (the seventh form; the later family's looks); each row that meets fmt, with fmt's text TOLD by the authors' own Lean function (tested against real Go, not proved from fmt's source: count such statements apart). THE CARD IS WHAT COUNTS. Prove the row's statement (the work); the ties are given (YtlagghghbpbcbaaGreatDoorTie.lean); close each card by the builder's one call (the guide's Derived/Test/ToyasCard.lean, 'card_holds'). Laid BY PROGRAM, IN A SANDBOX (cutbox-door.mjs). By AI agents, Wed Nov 11 2026. No macro, syntax, notation, axiom, sorry.
-/
import Derived.Test.YtlagghghbpbcbaaGreatDoorRows
import GoSem.ClaimSeven
namespace Go.Proofs.YtlagghghbpbcbaaGreatDoor
namespace Rows

/-- THE TIED CARD OF 'sundiallaw31.StartComes'. -/
def startComesCard : Claim7 := { stood := { row := startComesRow, standIns := [], harness := (true, "2c0382bdbc6d22ee4d988bd61ed44dafe5aff30dfc6d3fd10e4d89f39ae2277e"), looks := true }, kinds := [], alts := [], laidByText := true, laidKinds := [.data, .data, .data], laidTests := true, laidLooks := .later }
def StartComesCardSaid : Prop := Claim7.holds Tryz.pinned (.plain (OpenSpec.ofChange startComesSpec)) startComesCard

/-- THE SECOND FORM's CARD OF 'sundiallaw31.StartComes'. -/
def startComesUptoCard : Claim7 := { stood := { row := startComesUptoRow, standIns := [], harness := (true, "2c0382bdbc6d22ee4d988bd61ed44dafe5aff30dfc6d3fd10e4d89f39ae2277e"), looks := true }, kinds := [], alts := [], laidByText := true, laidKinds := [.data, .data, .data], laidTests := true, laidLooks := .later }
def StartComesUptoCardSaid : Prop := Claim7.holds Tryz.pinned (.plain (OpenSpec.upto startComesSpec)) startComesUptoCard
end Rows
end Go.Proofs.YtlagghghbpbcbaaGreatDoor
