/-
  DERIVED. GIVEN WITH THE SEED: THE CARDS: each row of YtbnckdleacieiaaDoorRows.lean that lists a variable, with what it lists TIED to the program's text (the seventh form; the later family's looks); each row that meets fmt, with fmt's text TOLD by the authors' own Lean function (tested against real Go, not proved from fmt's source: count such statements apart). THE CARD IS WHAT COUNTS. Prove the row's statement (the work); the ties are given (YtbnckdleacieiaaDoorTie.lean); close each card by the builder's one call (the guide's Derived/Test/ToyasCard.lean, 'card_holds'). Laid BY PROGRAM, IN A SANDBOX (cutbox-door.mjs). By AI agents, Wed Nov 11 2026. No macro, syntax, notation, axiom, sorry.
-/
import Derived.Test.YtbnckdleacieiaaDoorRows
import GoSem.ClaimSeven
namespace Go.Proofs.YtbnckdleacieiaaDoor
namespace Rows

/-- THE TIED CARD OF 'sundiallaw14.EpochGoes'. -/
def epochGoesCard : Claim7 := { stood := { row := epochGoesRow, standIns := [], harness := (true, "0674831e31a36370969e9c30b82851b5654237ea6da15bf08210f50681174e9f"), looks := false }, kinds := [], alts := [], laidByText := true, laidKinds := [.data, .data, .data], laidTests := true, laidLooks := .later }
def EpochGoesCardSaid : Prop := Claim7.holds Tryd.pinned (.plain (OpenSpec.ofChange epochGoesSpec)) epochGoesCard

/-- THE SECOND FORM's CARD OF 'sundiallaw14.EpochGoes'. -/
def epochGoesUptoCard : Claim7 := { stood := { row := epochGoesUptoRow, standIns := [], harness := (true, "0674831e31a36370969e9c30b82851b5654237ea6da15bf08210f50681174e9f"), looks := false }, kinds := [], alts := [], laidByText := true, laidKinds := [.data, .data, .data], laidTests := true, laidLooks := .later }
def EpochGoesUptoCardSaid : Prop := Claim7.holds Tryd.pinned (.plain (OpenSpec.upto epochGoesSpec)) epochGoesUptoCard
end Rows
end Go.Proofs.YtbnckdleacieiaaDoor
