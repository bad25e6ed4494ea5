/-
  DERIVED. GIVEN WITH THE SEED: THE CARDS: each row of YtcnbbflgccdfjaaDoorRows.lean that lists a variable, with what it lists TIED to the program's text (the seventh form; the later family's looks); each row that meets fmt, with fmt's text TOLD by the authors' own Lean function (tested against real Go, not proved from fmt's source: count such statements apart). THE CARD IS WHAT COUNTS. Prove the row's statement (the work); the ties are given (YtcnbbflgccdfjaaDoorTie.lean); close each card by the builder's one call (the guide's Derived/Test/ToyasCard.lean, 'card_holds'). Laid BY PROGRAM, IN A SANDBOX (cutbox-door.mjs). By AI agents, Wed Nov 11 2026. No macro, syntax, notation, axiom, sorry.
-/
import Derived.Test.YtcnbbflgccdfjaaDoorRows
import GoSem.ClaimSeven
namespace Go.Proofs.YtcnbbflgccdfjaaDoor
namespace Rows

/-- THE TIED CARD OF 'sundiallaw16.GiveFrees'. -/
def giveFreesCard : Claim7 := { stood := { row := giveFreesRow, standIns := [], harness := (true, "431a45bebff5fe34a1c70d79fcce8c44dd6a27468555d43f94ce5b3f1291b5f4"), looks := false }, kinds := [], alts := [], laidByText := true, laidKinds := [.data, .data, .data], laidTests := true, laidLooks := .later }
def GiveFreesCardSaid : Prop := Claim7.holds Tryd.pinned (.plain (OpenSpec.ofChange giveFreesSpec)) giveFreesCard

/-- THE SECOND FORM's CARD OF 'sundiallaw16.GiveFrees'. -/
def giveFreesUptoCard : Claim7 := { stood := { row := giveFreesUptoRow, standIns := [], harness := (true, "431a45bebff5fe34a1c70d79fcce8c44dd6a27468555d43f94ce5b3f1291b5f4"), looks := false }, kinds := [], alts := [], laidByText := true, laidKinds := [.data, .data, .data], laidTests := true, laidLooks := .later }
def GiveFreesUptoCardSaid : Prop := Claim7.holds Tryd.pinned (.plain (OpenSpec.upto giveFreesSpec)) giveFreesUptoCard
end Rows
end Go.Proofs.YtcnbbflgccdfjaaDoor
