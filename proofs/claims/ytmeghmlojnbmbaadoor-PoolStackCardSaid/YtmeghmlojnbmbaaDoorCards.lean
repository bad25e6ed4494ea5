/-
  DERIVED. GIVEN WITH THE SEED: THE CARDS: each row of YtmeghmlojnbmbaaDoorRows.lean that lists a variable, with what it lists TIED to the program's text (the seventh form; the later family's looks); each row that meets fmt, with fmt's text TOLD by the authors' own Lean function (tested against real Go, not proved from fmt's source: count such statements apart). THE CARD IS WHAT COUNTS. Prove the row's statement (the work); the ties are given (YtmeghmlojnbmbaaDoorTie.lean); close each card by the builder's one call (the guide's Derived/Test/ToyasCard.lean, 'card_holds'). Laid BY PROGRAM, IN A SANDBOX (cutbox-door.mjs). By AI agents, Wed Nov 11 2026. No macro, syntax, notation, axiom, sorry.
-/
import Derived.Test.YtmeghmlojnbmbaaDoorRows
import GoSem.ClaimSeven
namespace Go.Proofs.YtmeghmlojnbmbaaDoor
namespace Rows

/-- THE TIED CARD OF 'sundiallaw12.PoolPops'. -/
def poolPopsCard : Claim7 := { stood := { row := poolPopsRow, standIns := [], harness := (true, "ab491b16156c3abf832dd145e83f5da12beb47d9e169dcf33acc82e1611a8352"), looks := false }, kinds := [], alts := [], laidByText := true, laidKinds := [.data, .data, .data], laidTests := true, laidLooks := .later }
def PoolPopsCardSaid : Prop := Claim7.holds Tryd.pinned (.plain (OpenSpec.ofChange poolPopsSpec)) poolPopsCard

/-- THE TIED CARD OF 'sundiallaw12.PoolPushes'. -/
def poolPushesCard : Claim7 := { stood := { row := poolPushesRow, standIns := [], harness := (true, "ab491b16156c3abf832dd145e83f5da12beb47d9e169dcf33acc82e1611a8352"), looks := false }, kinds := [], alts := [], laidByText := true, laidKinds := [.data, .data, .data], laidTests := true, laidLooks := .later }
def PoolPushesCardSaid : Prop := Claim7.holds Tryd.pinned (.plain (OpenSpec.ofChange poolPushesSpec)) poolPushesCard

/-- THE TIED CARD OF 'sundiallaw12.PoolStack'. -/
def poolStackCard : Claim7 := { stood := { row := poolStackRow, standIns := [], harness := (true, "ab491b16156c3abf832dd145e83f5da12beb47d9e169dcf33acc82e1611a8352"), looks := false }, kinds := [], alts := [], laidByText := true, laidKinds := [.data, .data, .data], laidTests := true, laidLooks := .later }
def PoolStackCardSaid : Prop := Claim7.holds Tryd.pinned (.plain (OpenSpec.ofChange poolStackSpec)) poolStackCard

/-- THE SECOND FORM's CARD OF 'sundiallaw12.PoolPops'. -/
def poolPopsUptoCard : Claim7 := { stood := { row := poolPopsUptoRow, standIns := [], harness := (true, "ab491b16156c3abf832dd145e83f5da12beb47d9e169dcf33acc82e1611a8352"), looks := false }, kinds := [], alts := [], laidByText := true, laidKinds := [.data, .data, .data], laidTests := true, laidLooks := .later }
def PoolPopsUptoCardSaid : Prop := Claim7.holds Tryd.pinned (.plain (OpenSpec.upto poolPopsSpec)) poolPopsUptoCard

/-- THE SECOND FORM's CARD OF 'sundiallaw12.PoolPushes'. -/
def poolPushesUptoCard : Claim7 := { stood := { row := poolPushesUptoRow, standIns := [], harness := (true, "ab491b16156c3abf832dd145e83f5da12beb47d9e169dcf33acc82e1611a8352"), looks := false }, kinds := [], alts := [], laidByText := true, laidKinds := [.data, .data, .data], laidTests := true, laidLooks := .later }
def PoolPushesUptoCardSaid : Prop := Claim7.holds Tryd.pinned (.plain (OpenSpec.upto poolPushesSpec)) poolPushesUptoCard

/-- THE SECOND FORM's CARD OF 'sundiallaw12.PoolStack'. -/
def poolStackUptoCard : Claim7 := { stood := { row := poolStackUptoRow, standIns := [], harness := (true, "ab491b16156c3abf832dd145e83f5da12beb47d9e169dcf33acc82e1611a8352"), looks := false }, kinds := [], alts := [], laidByText := true, laidKinds := [.data, .data, .data], laidTests := true, laidLooks := .later }
def PoolStackUptoCardSaid : Prop := Claim7.holds Tryd.pinned (.plain (OpenSpec.upto poolStackSpec)) poolStackUptoCard
end Rows
end Go.Proofs.YtmeghmlojnbmbaaDoor
