/-
  DERIVED. GIVEN WITH THE SEED: THE CARDS: each row of YtjbfhnkjcfpfpaaDoorRows.lean that lists a variable, with what it lists TIED to the program's text (the seventh form; the later family's looks); each row that meets fmt, with fmt's text TOLD by the authors' own Lean function (tested against real Go, not proved from fmt's source: count such statements apart). THE CARD IS WHAT COUNTS. Prove the row's statement (the work); the ties are given (YtjbfhnkjcfpfpaaDoorTie.lean); close each card by the builder's one call (the guide's Derived/Test/ToyasCard.lean, 'card_holds'). Laid BY PROGRAM, IN A SANDBOX (cutbox-door.mjs). By AI agents, Wed Nov 11 2026. No macro, syntax, notation, axiom, sorry.
-/
import Derived.Test.YtjbfhnkjcfpfpaaDoorRows
import GoSem.ClaimSeven
namespace Go.Proofs.YtjbfhnkjcfpfpaaDoor
namespace Rows

/-- THE TIED CARD OF 'sundiallaw30.HandleTells'. -/
def handleTellsCard : Claim7 := { stood := { row := handleTellsRow, standIns := [], harness := (true, "17822472a5a22b5e3b5612b9c75b7fae6eeb6bcf89b5d6c8b428b25d9d8b7e1c"), looks := true }, kinds := [], alts := [], laidByText := true, laidKinds := [.data, .data, .data, .sentinel, .sentinel], laidTests := true, laidLooks := .later }
def HandleTellsCardSaid : Prop := Claim7.holds Tryd.pinned (.plain (OpenSpec.ofChange handleTellsSpec)) handleTellsCard

/-- THE TIED CARD OF 'sundiallaw30.HandleReads'. -/
def handleReadsCard : Claim7 := { stood := { row := handleReadsRow, standIns := [], harness := (true, "17822472a5a22b5e3b5612b9c75b7fae6eeb6bcf89b5d6c8b428b25d9d8b7e1c"), looks := true }, kinds := [], alts := [], laidByText := true, laidKinds := [.data, .data, .data, .sentinel, .sentinel], laidTests := true, laidLooks := .later }
def HandleReadsCardSaid : Prop := Claim7.holds Tryd.pinned (.plain (OpenSpec.ofChange handleReadsSpec)) handleReadsCard

/-- THE TIED CARD OF 'sundiallaw30.HandleBack'. -/
def handleBackCard : Claim7 := { stood := { row := handleBackRow, standIns := [], harness := (true, "17822472a5a22b5e3b5612b9c75b7fae6eeb6bcf89b5d6c8b428b25d9d8b7e1c"), looks := true }, kinds := [], alts := [], laidByText := true, laidKinds := [.data, .data, .data, .sentinel, .sentinel], laidTests := true, laidLooks := .later }
def HandleBackCardSaid : Prop := Claim7.holds Tryd.pinned (.plain (OpenSpec.ofChange handleBackSpec)) handleBackCard

/-- THE SECOND FORM's CARD OF 'sundiallaw30.HandleTells'. -/
def handleTellsUptoCard : Claim7 := { stood := { row := handleTellsUptoRow, standIns := [], harness := (true, "17822472a5a22b5e3b5612b9c75b7fae6eeb6bcf89b5d6c8b428b25d9d8b7e1c"), looks := true }, kinds := [], alts := [], laidByText := true, laidKinds := [.data, .data, .data, .sentinel, .sentinel], laidTests := true, laidLooks := .later }
def HandleTellsUptoCardSaid : Prop := Claim7.holds Tryd.pinned (.plain (OpenSpec.upto handleTellsSpec)) handleTellsUptoCard

/-- THE SECOND FORM's CARD OF 'sundiallaw30.HandleReads'. -/
def handleReadsUptoCard : Claim7 := { stood := { row := handleReadsUptoRow, standIns := [], harness := (true, "17822472a5a22b5e3b5612b9c75b7fae6eeb6bcf89b5d6c8b428b25d9d8b7e1c"), looks := true }, kinds := [], alts := [], laidByText := true, laidKinds := [.data, .data, .data, .sentinel, .sentinel], laidTests := true, laidLooks := .later }
def HandleReadsUptoCardSaid : Prop := Claim7.holds Tryd.pinned (.plain (OpenSpec.upto handleReadsSpec)) handleReadsUptoCard

/-- THE SECOND FORM's CARD OF 'sundiallaw30.HandleBack'. -/
def handleBackUptoCard : Claim7 := { stood := { row := handleBackUptoRow, standIns := [], harness := (true, "17822472a5a22b5e3b5612b9c75b7fae6eeb6bcf89b5d6c8b428b25d9d8b7e1c"), looks := true }, kinds := [], alts := [], laidByText := true, laidKinds := [.data, .data, .data, .sentinel, .sentinel], laidTests := true, laidLooks := .later }
def HandleBackUptoCardSaid : Prop := Claim7.holds Tryd.pinned (.plain (OpenSpec.upto handleBackSpec)) handleBackUptoCard
end Rows
end Go.Proofs.YtjbfhnkjcfpfpaaDoor
