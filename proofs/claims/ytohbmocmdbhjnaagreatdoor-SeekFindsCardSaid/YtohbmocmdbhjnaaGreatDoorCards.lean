/-
  DERIVED. GIVEN WITH THE SEED: THE CARDS: each row of YtohbmocmdbhjnaaGreatDoorRows.lean that lists a variable, with what it lists TIED to the program's text (the seventh form; the later family's looks); each row that meets fmt, with fmt's text TOLD by the authors' own Lean function (tested against real Go, not proved from fmt's source: count such statements apart). THE CARD IS WHAT COUNTS. Prove the row's statement (the work); the ties are given (YtohbmocmdbhjnaaGreatDoorTie.lean); close each card by the builder's one call (the guide's Derived/Test/ToyasCard.lean, 'card_holds'). Laid BY PROGRAM, IN A SANDBOX (cutbox-door.mjs). By AI agents, Wed Nov 11 2026. No macro, syntax, notation, axiom, sorry.
-/
import Derived.Test.YtohbmocmdbhjnaaGreatDoorRows
import GoSem.ClaimSeven
namespace Go.Proofs.YtohbmocmdbhjnaaGreatDoor
namespace Rows

/-- THE TIED CARD OF 'sundiallaw18.SeekFinds'. -/
def seekFindsCard : Claim7 := { stood := { row := seekFindsRow, standIns := [], harness := (true, "6999e8f1468fa42b9207f37a375567c7d3b59a343b5fbb3be12482299aa598d4"), looks := false }, kinds := [], alts := [], laidByText := true, laidKinds := [.data, .data, .data], laidTests := true, laidLooks := .later }
def SeekFindsCardSaid : Prop := Claim7.holds Tryz.pinned (.plain (OpenSpec.ofChange seekFindsSpec)) seekFindsCard

/-- THE SECOND FORM's CARD OF 'sundiallaw18.SeekFinds'. -/
def seekFindsUptoCard : Claim7 := { stood := { row := seekFindsUptoRow, standIns := [], harness := (true, "6999e8f1468fa42b9207f37a375567c7d3b59a343b5fbb3be12482299aa598d4"), looks := false }, kinds := [], alts := [], laidByText := true, laidKinds := [.data, .data, .data], laidTests := true, laidLooks := .later }
def SeekFindsUptoCardSaid : Prop := Claim7.holds Tryz.pinned (.plain (OpenSpec.upto seekFindsSpec)) seekFindsUptoCard
end Rows
end Go.Proofs.YtohbmocmdbhjnaaGreatDoor
