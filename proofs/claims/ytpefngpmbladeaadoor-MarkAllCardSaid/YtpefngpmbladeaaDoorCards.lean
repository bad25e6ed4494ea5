/-
  DERIVED. GIVEN WITH THE SEED: THE CARDS: each row of YtpefngpmbladeaaDoorRows.lean that lists a variable, with what it lists TIED to the program's text (the seventh form; the later family's looks); each row that meets fmt, with fmt's text TOLD by the authors' own Lean function (tested against real Go, not proved from fmt's source: count such statements apart). THE CARD IS WHAT COUNTS. Prove the row's statement (the work); the ties are given (YtpefngpmbladeaaDoorTie.lean); close each card by the builder's one call (the guide's Derived/Test/ToyasCard.lean, 'card_holds'). Laid BY PROGRAM, IN A SANDBOX (cutbox-door.mjs). By AI agents, Wed Nov 11 2026. No macro, syntax, notation, axiom, sorry.
-/
import Derived.Test.YtpefngpmbladeaaDoorRows
import GoSem.ClaimSeven
namespace Go.Proofs.YtpefngpmbladeaaDoor
namespace Rows

/-- THE TIED CARD OF 'sundiallaw22.MarkAll'. -/
def markAllCard : Claim7 := { stood := { row := markAllRow, standIns := [], harness := (true, "e68e3e2a57764c221fcce2243ab9e4162cc768ef51070f76e6b1c6a58631a3e6"), looks := false }, kinds := [], alts := [], laidByText := true, laidKinds := [.data, .data, .data], laidTests := true, laidLooks := .later }
def MarkAllCardSaid : Prop := Claim7.holds Tryd.pinned (.plain (OpenSpec.ofChange markAllSpec)) markAllCard

/-- THE SECOND FORM's CARD OF 'sundiallaw22.MarkAll'. -/
def markAllUptoCard : Claim7 := { stood := { row := markAllUptoRow, standIns := [], harness := (true, "e68e3e2a57764c221fcce2243ab9e4162cc768ef51070f76e6b1c6a58631a3e6"), looks := false }, kinds := [], alts := [], laidByText := true, laidKinds := [.data, .data, .data], laidTests := true, laidLooks := .later }
def MarkAllUptoCardSaid : Prop := Claim7.holds Tryd.pinned (.plain (OpenSpec.upto markAllSpec)) markAllUptoCard
end Rows
end Go.Proofs.YtpefngpmbladeaaDoor
