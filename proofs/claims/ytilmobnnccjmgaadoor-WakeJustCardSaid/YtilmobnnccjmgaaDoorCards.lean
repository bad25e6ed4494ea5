/-
  DERIVED. GIVEN WITH THE SEED: THE CARDS: each row of YtilmobnnccjmgaaDoorRows.lean that lists a variable, with what it lists TIED to the program's text (the seventh form; the later family's looks); each row that meets fmt, with fmt's text TOLD by the authors' own Lean function (tested against real Go, not proved from fmt's source: count such statements apart). THE CARD IS WHAT COUNTS. Prove the row's statement (the work); the ties are given (YtilmobnnccjmgaaDoorTie.lean); close each card by the builder's one call (the guide's Derived/Test/ToyasCard.lean, 'card_holds'). Laid BY PROGRAM, IN A SANDBOX (cutbox-door.mjs). By AI agents, Wed Nov 11 2026. No macro, syntax, notation, axiom, sorry.
-/
import Derived.Test.YtilmobnnccjmgaaDoorRows
import GoSem.ClaimSeven
namespace Go.Proofs.YtilmobnnccjmgaaDoor
namespace Rows

/-- THE TIED CARD OF 'sundiallaw28.WakeJust'. -/
def wakeJustCard : Claim7 := { stood := { row := wakeJustRow, standIns := [], harness := (true, "74e7a84ee8e634316fa8daf266fd3047245af30b995cf3329daa8faaaf2f75f0"), looks := false }, kinds := [], alts := [], laidByText := true, laidKinds := [.data, .data, .data], laidTests := true, laidLooks := .later }
def WakeJustCardSaid : Prop := Claim7.holds Tryd.pinned (.plain (OpenSpec.ofChange wakeJustSpec)) wakeJustCard

/-- THE SECOND FORM's CARD OF 'sundiallaw28.WakeJust'. -/
def wakeJustUptoCard : Claim7 := { stood := { row := wakeJustUptoRow, standIns := [], harness := (true, "74e7a84ee8e634316fa8daf266fd3047245af30b995cf3329daa8faaaf2f75f0"), looks := false }, kinds := [], alts := [], laidByText := true, laidKinds := [.data, .data, .data], laidTests := true, laidLooks := .later }
def WakeJustUptoCardSaid : Prop := Claim7.holds Tryd.pinned (.plain (OpenSpec.upto wakeJustSpec)) wakeJustUptoCard
end Rows
end Go.Proofs.YtilmobnnccjmgaaDoor
