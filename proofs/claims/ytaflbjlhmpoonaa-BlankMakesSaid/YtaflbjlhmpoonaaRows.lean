/-
  No cell of these rows narrows 'for every input' (looked for: loops, veiled, ifaces, maps, wideKeys, modest, calm, conditions, laid).
  DERIVED. THE GIVEN ROWS OF THIS SEAT. 3 by the template 'for every input the law returns true; each argument reads behind the call as it read before'; 0 by the template 'total and deterministic' (their statements: YtaflbjlhmpoonaaTotals.lean).
  GIVEN WITH THE SEED: the statements are not yours to turn. If you find one false, say at which input.
  Laid BY PROGRAM, IN A SANDBOX (cutbox-rows.mjs): the forced cells as the released guide's own fill.sh prints them over the translation 86883a8e85d18e54… (all of the seat's roots in one cut). By AI agents, Wed Nov 11 2026. No macro, syntax, notation, axiom, sorry.
-/
import Derived.Test.YtaflbjlhmpoonaaChecked
import GoSem.Claim
import GoSem.ClaimJoined
import GoSem.ClaimMapViews
import Derived.JoinedTies
import Derived.KernelRfl
namespace Go.Proofs.Ytaflbjlhmpoonaa
/- THE CELL 'sum', in the pinned program and in every row, IS THE sha256 OF THE DUMP (.gsa) THAT YtaflbjlhmpoonaaProg.lean LOADS. Nothing in Lean hashes anything: it is a label: what it is worth is what the hold of that sum in a sandbox is worth. -/
noncomputable def Try.pinned : Pinned := { name := "ytaflbjlhmpoonaa", sum := "86883a8e85d18e545adae95997b8633d39905b932f278c597d4f458532a7327f", checked := Try.checked }
namespace Rows
def none {H : Type} : Left H := { results := [], args := [] }

/-- 'sundiallaw10.BlankMakes': WHATEVER THE INPUT: true; the input reads as it did. -/
def blankMakesSpec : ChangeSpec := { name := "blankMakes", fn := fun _ => fun
  | [d] => { results := [.lit (.bool true)], args := [d] }
  | _ => none }
def blankMakesRow : OpenClaim := { program := "ytaflbjlhmpoonaa", sum := "86883a8e85d18e545adae95997b8633d39905b932f278c597d4f458532a7327f", func := "sundial/sundiallaw10.BlankMakes", spec := "blankMakes", apart := false }
def BlankMakesSaid : Prop := blankMakesRow.holds Try.pinned (OpenSpec.ofChange blankMakesSpec)

/-- ITS FALSE NEIGHBOUR: 'it returns false'. Refute it at one input. -/
def blankMakesWrong : ChangeSpec := { name := "blankMakes", fn := fun _ => fun
  | [d] => { results := [.lit (.bool false)], args := [d] }
  | _ => none }
def BlankMakesWrongFalsely : Prop := blankMakesRow.holds Try.pinned (OpenSpec.ofChange blankMakesWrong)

/-- 'sundiallaw10.BlankFree': WHATEVER THE INPUT: true; the input reads as it did. -/
def blankFreeSpec : ChangeSpec := { name := "blankFree", fn := fun _ => fun
  | [d1, d2] => { results := [.lit (.bool true)], args := [d1, d2] }
  | _ => none }
def blankFreeRow : OpenClaim := { program := "ytaflbjlhmpoonaa", sum := "86883a8e85d18e545adae95997b8633d39905b932f278c597d4f458532a7327f", func := "sundial/sundiallaw10.BlankFree", spec := "blankFree", apart := false }
def BlankFreeSaid : Prop := blankFreeRow.holds Try.pinned (OpenSpec.ofChange blankFreeSpec)

/-- ITS FALSE NEIGHBOUR: 'it returns false'. Refute it at one input. -/
def blankFreeWrong : ChangeSpec := { name := "blankFree", fn := fun _ => fun
  | [d1, d2] => { results := [.lit (.bool false)], args := [d1, d2] }
  | _ => none }
def BlankFreeWrongFalsely : Prop := blankFreeRow.holds Try.pinned (OpenSpec.ofChange blankFreeWrong)

/-- 'sundiallaw10.BlankAll': WHATEVER THE INPUT: true; the input reads as it did. -/
def blankAllSpec : ChangeSpec := { name := "blankAll", fn := fun _ => fun
  | [d] => { results := [.lit (.bool true)], args := [d] }
  | _ => none }
def blankAllRow : OpenClaim := { program := "ytaflbjlhmpoonaa", sum := "86883a8e85d18e545adae95997b8633d39905b932f278c597d4f458532a7327f", func := "sundial/sundiallaw10.BlankAll", spec := "blankAll", apart := false }
def BlankAllSaid : Prop := blankAllRow.holds Try.pinned (OpenSpec.ofChange blankAllSpec)

/-- ITS FALSE NEIGHBOUR: 'it returns false'. Refute it at one input. -/
def blankAllWrong : ChangeSpec := { name := "blankAll", fn := fun _ => fun
  | [d] => { results := [.lit (.bool false)], args := [d] }
  | _ => none }
def BlankAllWrongFalsely : Prop := blankAllRow.holds Try.pinned (OpenSpec.ofChange blankAllWrong)

/- THE SECOND FORM. 'bulk': how many values and letters a reading holds, each counted each time it is reached (what is shared counts as often as it is met; a slice's spare places count too). A statement '..UptoSaid' is the law's where the arguments, and the package variables that the reading takes, are together of bulk at most 1048576: NARROWER than '..Said'. Prove '..Said' where nothing that the law and all that it calls make is longer than what came in: it says more and counts as full. Else prove '..UptoSaid'. A law counts once. -/
mutual
def uptoBulk {H : Type} : DataW H → Nat
  | .lit (.string bytes) => bytes.length + 1
  | .lit _ => 1
  | .nil => 1
  | .ptr d => uptoBulk d + 1
  | .slice elems spare => uptoBulkAll elems + uptoBulkAll spare + 1
  | .agg parts => uptoBulkAll parts + 1
  | .iface _ d => uptoBulk d + 1
  | .map entries => uptoBulkEntries entries + 1
  | .held _ => 1
def uptoBulkAll {H : Type} : List (DataW H) → Nat
  | [] => 0
  | d :: r => uptoBulk d + uptoBulkAll r
def uptoBulkEntries {H : Type} : List (Lit × DataW H) → Nat
  | [] => 0
  | x :: r => uptoBulkEntry x + uptoBulkEntries r
def uptoBulkEntry {H : Type} : Lit × DataW H → Nat
  | (.string bytes, d) => bytes.length + uptoBulk d + 1
  | (_, d) => uptoBulk d + 1
 end
def uptoSmall : (H : Type) → List (DataW H) → Bool := fun _ ds => decide (uptoBulkAll ds ≤ 1048576)
def OpenSpec.upto (s : _root_.Go.ChangeSpec) : _root_.Go.OpenSpec := { _root_.Go.OpenSpec.ofChange s with cond := some uptoSmall }

/-- 'sundiallaw10.BlankMakes', WHERE WHAT IT READS IS OF BULK AT MOST 1048576: true; the input reads as it did. -/
def blankMakesUptoRow : OpenClaim := { program := "ytaflbjlhmpoonaa", sum := "86883a8e85d18e545adae95997b8633d39905b932f278c597d4f458532a7327f", func := "sundial/sundiallaw10.BlankMakes", spec := "blankMakes", apart := false, narrowed := true }
def BlankMakesUptoSaid : Prop := blankMakesUptoRow.holds Try.pinned (OpenSpec.upto blankMakesSpec)

/-- 'sundiallaw10.BlankFree', WHERE WHAT IT READS IS OF BULK AT MOST 1048576: true; the input reads as it did. -/
def blankFreeUptoRow : OpenClaim := { program := "ytaflbjlhmpoonaa", sum := "86883a8e85d18e545adae95997b8633d39905b932f278c597d4f458532a7327f", func := "sundial/sundiallaw10.BlankFree", spec := "blankFree", apart := false, narrowed := true }
def BlankFreeUptoSaid : Prop := blankFreeUptoRow.holds Try.pinned (OpenSpec.upto blankFreeSpec)

/-- 'sundiallaw10.BlankAll', WHERE WHAT IT READS IS OF BULK AT MOST 1048576: true; the input reads as it did. -/
def blankAllUptoRow : OpenClaim := { program := "ytaflbjlhmpoonaa", sum := "86883a8e85d18e545adae95997b8633d39905b932f278c597d4f458532a7327f", func := "sundial/sundiallaw10.BlankAll", spec := "blankAll", apart := false, narrowed := true }
def BlankAllUptoSaid : Prop := blankAllUptoRow.holds Try.pinned (OpenSpec.upto blankAllSpec)

end Rows
end Go.Proofs.Ytaflbjlhmpoonaa
