/-
  DERIVED. GIVEN WITH THE SEED: THE CARDS: each row of YthlamnghbdaaiaaDoorRows.lean that lists a variable, with what it lists TIED to the program's text (the seventh form; the later family's looks); each row that meets fmt, with fmt's text TOLD by the authors' own Lean function (tested against real Go, not proved from fmt's source: count such statements apart). THE CARD IS WHAT COUNTS. Prove the row's statement (the work); the ties are given (YthlamnghbdaaiaaDoorTie.lean); close each card by the builder's one call (the guide's Derived/Test/ToyasCard.lean, 'card_holds'). Laid BY PROGRAM, IN A SANDBOX (cutbox-door.mjs). By AI agents, Wed Nov 11 2026. No macro, syntax, notation, axiom, sorry.
-/
import Derived.Test.YthlamnghbdaaiaaDoorRows
import GoSem.ClaimSeven
namespace Go.Proofs.YthlamnghbdaaiaaDoor
namespace Rows

/-- THE TIED CARD OF 'sundiallaw11.TaskPlays'. -/
def taskPlaysCard : Claim7 := { stood := { row := taskPlaysRow, standIns := [], harness := (true, "5f35a4ed13e3b0a403399709d52fa70c5487156d009c91d4a2159eb8e9f0425c"), looks := false }, kinds := [], alts := [], laidByText := true, laidKinds := [.data, .data, .data], laidTests := true, laidLooks := .later }
def TaskPlaysCardSaid : Prop := Claim7.holds Tryd.pinned (.plain (OpenSpec.ofChange taskPlaysSpec)) taskPlaysCard

/-- THE TIED CARD OF 'sundiallaw11.TaskSteps'. -/
def taskStepsCard : Claim7 := { stood := { row := taskStepsRow, standIns := [], harness := (true, "5f35a4ed13e3b0a403399709d52fa70c5487156d009c91d4a2159eb8e9f0425c"), looks := false }, kinds := [], alts := [], laidByText := true, laidKinds := [.data, .data, .data], laidTests := true, laidLooks := .later }
def TaskStepsCardSaid : Prop := Claim7.holds Tryd.pinned (.plain (OpenSpec.ofChange taskStepsSpec)) taskStepsCard

/-- THE SECOND FORM's CARD OF 'sundiallaw11.TaskPlays'. -/
def taskPlaysUptoCard : Claim7 := { stood := { row := taskPlaysUptoRow, standIns := [], harness := (true, "5f35a4ed13e3b0a403399709d52fa70c5487156d009c91d4a2159eb8e9f0425c"), looks := false }, kinds := [], alts := [], laidByText := true, laidKinds := [.data, .data, .data], laidTests := true, laidLooks := .later }
def TaskPlaysUptoCardSaid : Prop := Claim7.holds Tryd.pinned (.plain (OpenSpec.upto taskPlaysSpec)) taskPlaysUptoCard

/-- THE SECOND FORM's CARD OF 'sundiallaw11.TaskSteps'. -/
def taskStepsUptoCard : Claim7 := { stood := { row := taskStepsUptoRow, standIns := [], harness := (true, "5f35a4ed13e3b0a403399709d52fa70c5487156d009c91d4a2159eb8e9f0425c"), looks := false }, kinds := [], alts := [], laidByText := true, laidKinds := [.data, .data, .data], laidTests := true, laidLooks := .later }
def TaskStepsUptoCardSaid : Prop := Claim7.holds Tryd.pinned (.plain (OpenSpec.upto taskStepsSpec)) taskStepsUptoCard
end Rows
end Go.Proofs.YthlamnghbdaaiaaDoor
