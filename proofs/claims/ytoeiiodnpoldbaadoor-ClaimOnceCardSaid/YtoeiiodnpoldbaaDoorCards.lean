/-
  DERIVED. GIVEN WITH THE SEED: THE CARDS: each row of YtoeiiodnpoldbaaDoorRows.lean that lists a variable, with what it lists TIED to the program's text (the seventh form; the later family's looks); each row that meets fmt, with fmt's text TOLD by the authors' own Lean function (tested against real Go, not proved from fmt's source: count such statements apart). THE CARD IS WHAT COUNTS. Prove the row's statement (the work); the ties are given (YtoeiiodnpoldbaaDoorTie.lean); close each card by the builder's one call (the guide's Derived/Test/ToyasCard.lean, 'card_holds'). Laid BY PROGRAM, IN A SANDBOX (cutbox-door.mjs). By AI agents, Wed Nov 11 2026. No macro, syntax, notation, axiom, sorry.
-/
import Derived.Test.YtoeiiodnpoldbaaDoorRows
import GoSem.ClaimSeven
namespace Go.Proofs.YtoeiiodnpoldbaaDoor
namespace Rows

/-- THE TIED CARD OF 'sundiallaw24.ClaimOnce'. -/
def claimOnceCard : Claim7 := { stood := { row := claimOnceRow, standIns := [], harness := (true, "b24fe96b3754d874bfce1e3d43bb1f90a8d51a13c7cdab77770ded193ca4c41a"), looks := false }, kinds := [], alts := [], laidByText := true, laidKinds := [.data, .data, .data], laidTests := true, laidLooks := .later }
def ClaimOnceCardSaid : Prop := Claim7.holds Tryd.pinned (.plain (OpenSpec.ofChange claimOnceSpec)) claimOnceCard

/-- THE SECOND FORM's CARD OF 'sundiallaw24.ClaimOnce'. -/
def claimOnceUptoCard : Claim7 := { stood := { row := claimOnceUptoRow, standIns := [], harness := (true, "b24fe96b3754d874bfce1e3d43bb1f90a8d51a13c7cdab77770ded193ca4c41a"), looks := false }, kinds := [], alts := [], laidByText := true, laidKinds := [.data, .data, .data], laidTests := true, laidLooks := .later }
def ClaimOnceUptoCardSaid : Prop := Claim7.holds Tryd.pinned (.plain (OpenSpec.upto claimOnceSpec)) claimOnceUptoCard
end Rows
end Go.Proofs.YtoeiiodnpoldbaaDoor
