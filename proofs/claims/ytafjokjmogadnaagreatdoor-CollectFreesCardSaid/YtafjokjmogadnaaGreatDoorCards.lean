/-
  DERIVED. GIVEN WITH THE SEED: THE CARDS: each row of YtafjokjmogadnaaGreatDoorRows.lean that lists a variable, with what it lists TIED to the program's text (the seventh form; the later family's looks); each row that meets fmt, with fmt's text TOLD by the authors' own Lean function (tested against real Go, not proved from fmt's source: count such statements apart). THE CARD IS WHAT COUNTS. Prove the row's statement (the work); the ties are given (YtafjokjmogadnaaGreatDoorTie.lean); close each card by the builder's one call (the guide's Derived/Test/ToyasCard.lean, 'card_holds'). Laid BY PROGRAM, IN A SANDBOX (cutbox-door.mjs). By AI agents, Wed Nov 11 2026. No macro, syntax, notation, axiom, sorry.
-/
import Derived.Test.YtafjokjmogadnaaGreatDoorRows
import GoSem.ClaimSeven
namespace Go.Proofs.YtafjokjmogadnaaGreatDoor
namespace Rows

/-- THE TIED CARD OF 'sundiallaw17.CollectAsks'. -/
def collectAsksCard : Claim7 := { stood := { row := collectAsksRow, standIns := [], harness := (true, "4a1269dcc5f7bb5b12445f82761e2be7c9a31da36f81a11de859e2cc4427c494"), looks := false }, kinds := [], alts := [], laidByText := true, laidKinds := [.data, .data, .data], laidTests := true, laidLooks := .later }
def CollectAsksCardSaid : Prop := Claim7.holds Tryz.pinned (.plain (OpenSpec.ofChange collectAsksSpec)) collectAsksCard

/-- THE TIED CARD OF 'sundiallaw17.CollectFrees'. -/
def collectFreesCard : Claim7 := { stood := { row := collectFreesRow, standIns := [], harness := (true, "4a1269dcc5f7bb5b12445f82761e2be7c9a31da36f81a11de859e2cc4427c494"), looks := false }, kinds := [], alts := [], laidByText := true, laidKinds := [.data, .data, .data], laidTests := true, laidLooks := .later }
def CollectFreesCardSaid : Prop := Claim7.holds Tryz.pinned (.plain (OpenSpec.ofChange collectFreesSpec)) collectFreesCard

/-- THE SECOND FORM's CARD OF 'sundiallaw17.CollectAsks'. -/
def collectAsksUptoCard : Claim7 := { stood := { row := collectAsksUptoRow, standIns := [], harness := (true, "4a1269dcc5f7bb5b12445f82761e2be7c9a31da36f81a11de859e2cc4427c494"), looks := false }, kinds := [], alts := [], laidByText := true, laidKinds := [.data, .data, .data], laidTests := true, laidLooks := .later }
def CollectAsksUptoCardSaid : Prop := Claim7.holds Tryz.pinned (.plain (OpenSpec.upto collectAsksSpec)) collectAsksUptoCard

/-- THE SECOND FORM's CARD OF 'sundiallaw17.CollectFrees'. -/
def collectFreesUptoCard : Claim7 := { stood := { row := collectFreesUptoRow, standIns := [], harness := (true, "4a1269dcc5f7bb5b12445f82761e2be7c9a31da36f81a11de859e2cc4427c494"), looks := false }, kinds := [], alts := [], laidByText := true, laidKinds := [.data, .data, .data], laidTests := true, laidLooks := .later }
def CollectFreesUptoCardSaid : Prop := Claim7.holds Tryz.pinned (.plain (OpenSpec.upto collectFreesSpec)) collectFreesUptoCard
end Rows
end Go.Proofs.YtafjokjmogadnaaGreatDoor
