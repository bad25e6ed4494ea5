/-
  No cell of these rows narrows 'for every input' (looked for: loops, veiled, ifaces, maps, wideKeys, modest, calm, conditions, laid).
  DERIVED. THE GIVEN ROWS OF THIS SEAT. 3 by the template 'for every input the law returns true; each argument reads behind the call as it read before'; 0 by the template 'total and deterministic' (their statements: YtbclgjobleibpaaTotals.lean).
  GIVEN WITH THE SEED: the statements are not yours to turn. If you find one false, say at which input.
  Laid BY PROGRAM, IN A SANDBOX (cutbox-rows.mjs): the forced cells as the released guide's own fill.sh prints them over the translation 0e6dcc5b3385c618… (all of the seat's roots in one cut). By AI agents, Wed Nov 11 2026. No macro, syntax, notation, axiom, sorry.
-/
import Derived.Test.YtbclgjobleibpaaChecked
import GoSem.Claim
import GoSem.ClaimJoined
import GoSem.ClaimMapViews
import Derived.JoinedTies
import Derived.KernelRfl
namespace Go.Proofs.Ytbclgjobleibpaa
/- THE CELL 'sum', in the pinned program and in every row, IS THE sha256 OF THE DUMP (.gsa) THAT YtbclgjobleibpaaProg.lean LOADS. Nothing in Lean hashes anything: it is a label: what it is worth is what the hold of that sum in a sandbox is worth. -/
noncomputable def Try.pinned : Pinned := { name := "ytbclgjobleibpaa", sum := "0e6dcc5b3385c618a50d520e580a0d396074451ff4c932796338df5d16e1900b", checked := Try.checked }
namespace Rows
def none {H : Type} : Left H := { results := [], args := [] }

/-- 'sundiallaw02.ReferTells': WHATEVER THE INPUT: true; the input reads as it did. -/
def referTellsSpec : ChangeSpec := { name := "referTells", fn := fun _ => fun
  | [d1, d2, d3] => { results := [.lit (.bool true)], args := [d1, d2, d3] }
  | _ => none }
def referTellsRow : OpenClaim := { program := "ytbclgjobleibpaa", sum := "0e6dcc5b3385c618a50d520e580a0d396074451ff4c932796338df5d16e1900b", func := "sundial/sundiallaw02.ReferTells", spec := "referTells", apart := false }
def ReferTellsSaid : Prop := referTellsRow.holds Try.pinned (OpenSpec.ofChange referTellsSpec)

/-- ITS FALSE NEIGHBOUR: 'it returns false'. Refute it at one input. -/
def referTellsWrong : ChangeSpec := { name := "referTells", fn := fun _ => fun
  | [d1, d2, d3] => { results := [.lit (.bool false)], args := [d1, d2, d3] }
  | _ => none }
def ReferTellsWrongFalsely : Prop := referTellsRow.holds Try.pinned (OpenSpec.ofChange referTellsWrong)

/-- 'sundiallaw02.ReferBack': WHATEVER THE INPUT: true; the input reads as it did. -/
def referBackSpec : ChangeSpec := { name := "referBack", fn := fun _ => fun
  | [d1, d2] => { results := [.lit (.bool true)], args := [d1, d2] }
  | _ => none }
def referBackRow : OpenClaim := { program := "ytbclgjobleibpaa", sum := "0e6dcc5b3385c618a50d520e580a0d396074451ff4c932796338df5d16e1900b", func := "sundial/sundiallaw02.ReferBack", spec := "referBack", apart := false }
def ReferBackSaid : Prop := referBackRow.holds Try.pinned (OpenSpec.ofChange referBackSpec)

/-- ITS FALSE NEIGHBOUR: 'it returns false'. Refute it at one input. -/
def referBackWrong : ChangeSpec := { name := "referBack", fn := fun _ => fun
  | [d1, d2] => { results := [.lit (.bool false)], args := [d1, d2] }
  | _ => none }
def ReferBackWrongFalsely : Prop := referBackRow.holds Try.pinned (OpenSpec.ofChange referBackWrong)

/-- 'sundiallaw02.ReferApart': WHATEVER THE INPUT: true; the input reads as it did. -/
def referApartSpec : ChangeSpec := { name := "referApart", fn := fun _ => fun
  | [d1, d2] => { results := [.lit (.bool true)], args := [d1, d2] }
  | _ => none }
def referApartRow : OpenClaim := { program := "ytbclgjobleibpaa", sum := "0e6dcc5b3385c618a50d520e580a0d396074451ff4c932796338df5d16e1900b", func := "sundial/sundiallaw02.ReferApart", spec := "referApart", apart := false }
def ReferApartSaid : Prop := referApartRow.holds Try.pinned (OpenSpec.ofChange referApartSpec)

/-- ITS FALSE NEIGHBOUR: 'it returns false'. Refute it at one input. -/
def referApartWrong : ChangeSpec := { name := "referApart", fn := fun _ => fun
  | [d1, d2] => { results := [.lit (.bool false)], args := [d1, d2] }
  | _ => none }
def ReferApartWrongFalsely : Prop := referApartRow.holds Try.pinned (OpenSpec.ofChange referApartWrong)

/- THE SECOND FORM. 'bulk': how many values and letters a reading holds, each counted each time it is reached (what is shared counts as often as it is met; a slice's spare places count too). A statement '..UptoSaid' is the law's where the arguments, and the package variables that the reading takes, are together of bulk at most 1048576: NARROWER than '..Said'. Prove '..Said' where nothing that the law and all that it calls make is longer than what came in: it says more and counts as full. Else prove '..UptoSaid'. A law counts once. -/
mutual
def uptoBulk {H : Type} : DataW H → Nat
  | .lit (.string bytes) => bytes.length + 1
  | .lit _ => 1
  | .nil => 1
  | .ptr d => uptoBulk d + 1
  | .slice elems spare => uptoBulkAll elems + uptoBulkAll spare + 1
  | .agg parts => uptoBulkAll parts + 1
  | .iface _ d => uptoBulk d + 1
  | .map entries => uptoBulkEntries entries + 1
  | .held _ => 1
def uptoBulkAll {H : Type} : List (DataW H) → Nat
  | [] => 0
  | d :: r => uptoBulk d + uptoBulkAll r
def uptoBulkEntries {H : Type} : List (Lit × DataW H) → Nat
  | [] => 0
  | x :: r => uptoBulkEntry x + uptoBulkEntries r
def uptoBulkEntry {H : Type} : Lit × DataW H → Nat
  | (.string bytes, d) => bytes.length + uptoBulk d + 1
  | (_, d) => uptoBulk d + 1
 end
def uptoSmall : (H : Type) → List (DataW H) → Bool := fun _ ds => decide (uptoBulkAll ds ≤ 1048576)
def OpenSpec.upto (s : _root_.Go.ChangeSpec) : _root_.Go.OpenSpec := { _root_.Go.OpenSpec.ofChange s with cond := some uptoSmall }

/-- 'sundiallaw02.ReferTells', WHERE WHAT IT READS IS OF BULK AT MOST 1048576: true; the input reads as it did. -/
def referTellsUptoRow : OpenClaim := { program := "ytbclgjobleibpaa", sum := "0e6dcc5b3385c618a50d520e580a0d396074451ff4c932796338df5d16e1900b", func := "sundial/sundiallaw02.ReferTells", spec := "referTells", apart := false, narrowed := true }
def ReferTellsUptoSaid : Prop := referTellsUptoRow.holds Try.pinned (OpenSpec.upto referTellsSpec)

/-- 'sundiallaw02.ReferBack', WHERE WHAT IT READS IS OF BULK AT MOST 1048576: true; the input reads as it did. -/
def referBackUptoRow : OpenClaim := { program := "ytbclgjobleibpaa", sum := "0e6dcc5b3385c618a50d520e580a0d396074451ff4c932796338df5d16e1900b", func := "sundial/sundiallaw02.ReferBack", spec := "referBack", apart := false, narrowed := true }
def ReferBackUptoSaid : Prop := referBackUptoRow.holds Try.pinned (OpenSpec.upto referBackSpec)

/-- 'sundiallaw02.ReferApart', WHERE WHAT IT READS IS OF BULK AT MOST 1048576: true; the input reads as it did. -/
def referApartUptoRow : OpenClaim := { program := "ytbclgjobleibpaa", sum := "0e6dcc5b3385c618a50d520e580a0d396074451ff4c932796338df5d16e1900b", func := "sundial/sundiallaw02.ReferApart", spec := "referApart", apart := false, narrowed := true }
def ReferApartUptoSaid : Prop := referApartUptoRow.holds Try.pinned (OpenSpec.upto referApartSpec)

end Rows
end Go.Proofs.Ytbclgjobleibpaa
