/-
  DERIVED. GIVEN WITH THE SEED: THE CARDS: each row of YtghinmjebkpjhaaDoorRows.lean that lists a variable, with what it lists TIED to the program's text (the seventh form; the later family's looks); each row that meets fmt, with fmt's text TOLD by the authors' own Lean function (tested against real Go, not proved from fmt's source: count such statements apart). THE CARD IS WHAT COUNTS. Prove the row's statement (the work); the ties are given (YtghinmjebkpjhaaDoorTie.lean); close each card by the builder's one call (the guide's Derived/Test/ToyasCard.lean, 'card_holds'). Laid BY PROGRAM, IN A SANDBOX (cutbox-door.mjs). By AI agents, Wed Nov 11 2026. No macro, syntax, notation, axiom, sorry.
-/
import Derived.Test.YtghinmjebkpjhaaDoorRows
import GoSem.ClaimSeven
namespace Go.Proofs.YtghinmjebkpjhaaDoor
namespace Rows

/-- THE TIED CARD OF 'sundiallaw07.DeedDoes'. -/
def deedDoesCard : Claim7 := { stood := { row := deedDoesRow, standIns := [], harness := (true, "8e39041db4df20b2970cb92d5935fbf903dd355cf42de806555c435bf76e6229"), looks := false }, kinds := [], alts := [], laidByText := true, laidKinds := [.data, .data, .data], laidTests := true, laidLooks := .later }
def DeedDoesCardSaid : Prop := Claim7.holds Tryd.pinned (.plain (OpenSpec.ofChange deedDoesSpec)) deedDoesCard

/-- THE TIED CARD OF 'sundiallaw07.DeedTells'. -/
def deedTellsCard : Claim7 := { stood := { row := deedTellsRow, standIns := [], harness := (true, "8e39041db4df20b2970cb92d5935fbf903dd355cf42de806555c435bf76e6229"), looks := false }, kinds := [], alts := [], laidByText := true, laidKinds := [.data, .data, .data], laidTests := true, laidLooks := .later }
def DeedTellsCardSaid : Prop := Claim7.holds Tryd.pinned (.plain (OpenSpec.ofChange deedTellsSpec)) deedTellsCard

/-- THE TIED CARD OF 'sundiallaw07.DeedOne'. -/
def deedOneCard : Claim7 := { stood := { row := deedOneRow, standIns := [], harness := (true, "8e39041db4df20b2970cb92d5935fbf903dd355cf42de806555c435bf76e6229"), looks := false }, kinds := [], alts := [], laidByText := true, laidKinds := [.data, .data, .data], laidTests := true, laidLooks := .later }
def DeedOneCardSaid : Prop := Claim7.holds Tryd.pinned (.plain (OpenSpec.ofChange deedOneSpec)) deedOneCard

/-- THE SECOND FORM's CARD OF 'sundiallaw07.DeedDoes'. -/
def deedDoesUptoCard : Claim7 := { stood := { row := deedDoesUptoRow, standIns := [], harness := (true, "8e39041db4df20b2970cb92d5935fbf903dd355cf42de806555c435bf76e6229"), looks := false }, kinds := [], alts := [], laidByText := true, laidKinds := [.data, .data, .data], laidTests := true, laidLooks := .later }
def DeedDoesUptoCardSaid : Prop := Claim7.holds Tryd.pinned (.plain (OpenSpec.upto deedDoesSpec)) deedDoesUptoCard

/-- THE SECOND FORM's CARD OF 'sundiallaw07.DeedTells'. -/
def deedTellsUptoCard : Claim7 := { stood := { row := deedTellsUptoRow, standIns := [], harness := (true, "8e39041db4df20b2970cb92d5935fbf903dd355cf42de806555c435bf76e6229"), looks := false }, kinds := [], alts := [], laidByText := true, laidKinds := [.data, .data, .data], laidTests := true, laidLooks := .later }
def DeedTellsUptoCardSaid : Prop := Claim7.holds Tryd.pinned (.plain (OpenSpec.upto deedTellsSpec)) deedTellsUptoCard

/-- THE SECOND FORM's CARD OF 'sundiallaw07.DeedOne'. -/
def deedOneUptoCard : Claim7 := { stood := { row := deedOneUptoRow, standIns := [], harness := (true, "8e39041db4df20b2970cb92d5935fbf903dd355cf42de806555c435bf76e6229"), looks := false }, kinds := [], alts := [], laidByText := true, laidKinds := [.data, .data, .data], laidTests := true, laidLooks := .later }
def DeedOneUptoCardSaid : Prop := Claim7.holds Tryd.pinned (.plain (OpenSpec.upto deedOneSpec)) deedOneUptoCard
end Rows
end Go.Proofs.YtghinmjebkpjhaaDoor
