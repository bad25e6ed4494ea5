/-
  DERIVED. GIVEN WITH THE SEED: THE CARDS: each row of YtemjbheegdpofaaDoorRows.lean that lists a variable, with what it lists TIED to the program's text (the seventh form; the later family's looks); each row that meets fmt, with fmt's text TOLD by the authors' own Lean function (tested against real Go, not proved from fmt's source: count such statements apart). THE CARD IS WHAT COUNTS. Prove the row's statement (the work); the ties are given (YtemjbheegdpofaaDoorTie.lean); close each card by the builder's one call (the guide's Derived/Test/ToyasCard.lean, 'card_holds'). Laid BY PROGRAM, IN A SANDBOX (cutbox-door.mjs). By AI agents, Wed Nov 11 2026. No macro, syntax, notation, axiom, sorry.
-/
import Derived.Test.YtemjbheegdpofaaDoorRows
import GoSem.ClaimSeven
namespace Go.Proofs.YtemjbheegdpofaaDoor
namespace Rows

/-- THE TIED CARD OF 'sundiallaw19.MintAsks'. -/
def mintAsksCard : Claim7 := { stood := { row := mintAsksRow, standIns := [], harness := (true, "e105c61d3a680f30a70d8392e6847240cfe8dd42b0ad1f13a9d03513dac0217b"), looks := false }, kinds := [], alts := [], laidByText := true, laidKinds := [.data, .data, .data], laidTests := true, laidLooks := .later }
def MintAsksCardSaid : Prop := Claim7.holds Tryd.pinned (.plain (OpenSpec.ofChange mintAsksSpec)) mintAsksCard

/-- THE TIED CARD OF 'sundiallaw19.MintOnce'. -/
def mintOnceCard : Claim7 := { stood := { row := mintOnceRow, standIns := [], harness := (true, "e105c61d3a680f30a70d8392e6847240cfe8dd42b0ad1f13a9d03513dac0217b"), looks := false }, kinds := [], alts := [], laidByText := true, laidKinds := [.data, .data, .data], laidTests := true, laidLooks := .later }
def MintOnceCardSaid : Prop := Claim7.holds Tryd.pinned (.plain (OpenSpec.ofChange mintOnceSpec)) mintOnceCard

/-- THE SECOND FORM's CARD OF 'sundiallaw19.MintAsks'. -/
def mintAsksUptoCard : Claim7 := { stood := { row := mintAsksUptoRow, standIns := [], harness := (true, "e105c61d3a680f30a70d8392e6847240cfe8dd42b0ad1f13a9d03513dac0217b"), looks := false }, kinds := [], alts := [], laidByText := true, laidKinds := [.data, .data, .data], laidTests := true, laidLooks := .later }
def MintAsksUptoCardSaid : Prop := Claim7.holds Tryd.pinned (.plain (OpenSpec.upto mintAsksSpec)) mintAsksUptoCard

/-- THE SECOND FORM's CARD OF 'sundiallaw19.MintOnce'. -/
def mintOnceUptoCard : Claim7 := { stood := { row := mintOnceUptoRow, standIns := [], harness := (true, "e105c61d3a680f30a70d8392e6847240cfe8dd42b0ad1f13a9d03513dac0217b"), looks := false }, kinds := [], alts := [], laidByText := true, laidKinds := [.data, .data, .data], laidTests := true, laidLooks := .later }
def MintOnceUptoCardSaid : Prop := Claim7.holds Tryd.pinned (.plain (OpenSpec.upto mintOnceSpec)) mintOnceUptoCard
end Rows
end Go.Proofs.YtemjbheegdpofaaDoor
