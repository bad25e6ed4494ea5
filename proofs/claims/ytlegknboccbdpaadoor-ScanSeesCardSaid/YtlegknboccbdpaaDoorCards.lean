/-
  DERIVED. GIVEN WITH THE SEED: THE CARDS: each row of YtlegknboccbdpaaDoorRows.lean that lists a variable, with what it lists TIED to the program's text (the seventh form; the later family's looks); each row that meets fmt, with fmt's text TOLD by the authors' own Lean function (tested against real Go, not proved from fmt's source: count such statements apart). THE CARD IS WHAT COUNTS. Prove the row's statement (the work); the ties are given (YtlegknboccbdpaaDoorTie.lean); close each card by the builder's one call (the guide's Derived/Test/ToyasCard.lean, 'card_holds'). Laid BY PROGRAM, IN A SANDBOX (cutbox-door.mjs). By AI agents, Wed Nov 11 2026. No macro, syntax, notation, axiom, sorry.
-/
import Derived.Test.YtlegknboccbdpaaDoorRows
import GoSem.ClaimSeven
namespace Go.Proofs.YtlegknboccbdpaaDoor
namespace Rows

/-- THE TIED CARD OF 'sundiallaw27.ScanSees'. -/
def scanSeesCard : Claim7 := { stood := { row := scanSeesRow, standIns := [], harness := (true, "1370cae5a92f81f4c7f92ba8987c0756e91431b1c6546ed6ebcb4d8d18df559a"), looks := false }, kinds := [], alts := [], laidByText := true, laidKinds := [.data, .data, .data], laidTests := true, laidLooks := .later }
def ScanSeesCardSaid : Prop := Claim7.holds Tryd.pinned (.plain (OpenSpec.ofChange scanSeesSpec)) scanSeesCard

/-- THE SECOND FORM's CARD OF 'sundiallaw27.ScanSees'. -/
def scanSeesUptoCard : Claim7 := { stood := { row := scanSeesUptoRow, standIns := [], harness := (true, "1370cae5a92f81f4c7f92ba8987c0756e91431b1c6546ed6ebcb4d8d18df559a"), looks := false }, kinds := [], alts := [], laidByText := true, laidKinds := [.data, .data, .data], laidTests := true, laidLooks := .later }
def ScanSeesUptoCardSaid : Prop := Claim7.holds Tryd.pinned (.plain (OpenSpec.upto scanSeesSpec)) scanSeesUptoCard
end Rows
end Go.Proofs.YtlegknboccbdpaaDoor
