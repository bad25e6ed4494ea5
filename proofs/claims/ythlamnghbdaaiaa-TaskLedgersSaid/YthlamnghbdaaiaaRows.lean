/-
  No cell of these rows narrows 'for every input' (looked for: loops, veiled, ifaces, maps, wideKeys, modest, calm, conditions, laid).
  DERIVED. THE GIVEN ROWS OF THIS SEAT. 3 by the template 'for every input the law returns true; each argument reads behind the call as it read before'; 0 by the template 'total and deterministic' (their statements: YthlamnghbdaaiaaTotals.lean).
  GIVEN WITH THE SEED: the statements are not yours to turn. If you find one false, say at which input.
  Laid BY PROGRAM, IN A SANDBOX (cutbox-rows.mjs): the forced cells as the released guide's own fill.sh prints them over the translation 9d8b2ef24d18c52c… (all of the seat's roots in one cut). By AI agents, Wed Nov 11 2026. No macro, syntax, notation, axiom, sorry.
-/
import Derived.Test.YthlamnghbdaaiaaChecked
import GoSem.Claim
import GoSem.ClaimJoined
import GoSem.ClaimMapViews
import Derived.JoinedTies
import Derived.KernelRfl
namespace Go.Proofs.Ythlamnghbdaaiaa
/- THE CELL 'sum', in the pinned program and in every row, IS THE sha256 OF THE DUMP (.gsa) THAT YthlamnghbdaaiaaProg.lean LOADS. Nothing in Lean hashes anything: it is a label: what it is worth is what the hold of that sum in a sandbox is worth. -/
noncomputable def Try.pinned : Pinned := { name := "ythlamnghbdaaiaa", sum := "9d8b2ef24d18c52ce577dc770fa6f2f9921c04356079edb60467dfe3645db781", checked := Try.checked }
namespace Rows
def none {H : Type} : Left H := { results := [], args := [] }

/-- 'sundiallaw11.TaskScripts': WHATEVER THE INPUT: true; the input reads as it did. -/
def taskScriptsSpec : ChangeSpec := { name := "taskScripts", fn := fun _ => fun
  | [d1, d2] => { results := [.lit (.bool true)], args := [d1, d2] }
  | _ => none }
def taskScriptsRow : OpenClaim := { program := "ythlamnghbdaaiaa", sum := "9d8b2ef24d18c52ce577dc770fa6f2f9921c04356079edb60467dfe3645db781", func := "sundial/sundiallaw11.TaskScripts", spec := "taskScripts", apart := false }
def TaskScriptsSaid : Prop := taskScriptsRow.holds Try.pinned (OpenSpec.ofChange taskScriptsSpec)

/-- ITS FALSE NEIGHBOUR: 'it returns false'. Refute it at one input. -/
def taskScriptsWrong : ChangeSpec := { name := "taskScripts", fn := fun _ => fun
  | [d1, d2] => { results := [.lit (.bool false)], args := [d1, d2] }
  | _ => none }
def TaskScriptsWrongFalsely : Prop := taskScriptsRow.holds Try.pinned (OpenSpec.ofChange taskScriptsWrong)

/-- 'sundiallaw11.TaskFlows': WHATEVER THE INPUT: true; the input reads as it did. -/
def taskFlowsSpec : ChangeSpec := { name := "taskFlows", fn := fun _ => fun
  | [d1, d2, d3] => { results := [.lit (.bool true)], args := [d1, d2, d3] }
  | _ => none }
def taskFlowsRow : OpenClaim := { program := "ythlamnghbdaaiaa", sum := "9d8b2ef24d18c52ce577dc770fa6f2f9921c04356079edb60467dfe3645db781", func := "sundial/sundiallaw11.TaskFlows", spec := "taskFlows", unfollowed := true, recurses := true, apart := false }
def TaskFlowsSaid : Prop := taskFlowsRow.holds Try.pinned (OpenSpec.ofChange taskFlowsSpec)

/-- ITS FALSE NEIGHBOUR: 'it returns false'. Refute it at one input. -/
def taskFlowsWrong : ChangeSpec := { name := "taskFlows", fn := fun _ => fun
  | [d1, d2, d3] => { results := [.lit (.bool false)], args := [d1, d2, d3] }
  | _ => none }
def TaskFlowsWrongFalsely : Prop := taskFlowsRow.holds Try.pinned (OpenSpec.ofChange taskFlowsWrong)

/-- 'sundiallaw11.TaskLedgers': WHATEVER THE INPUT: true; the input reads as it did. -/
def taskLedgersSpec : ChangeSpec := { name := "taskLedgers", fn := fun _ => fun
  | [d] => { results := [.lit (.bool true)], args := [d] }
  | _ => none }
def taskLedgersRow : OpenClaim := { program := "ythlamnghbdaaiaa", sum := "9d8b2ef24d18c52ce577dc770fa6f2f9921c04356079edb60467dfe3645db781", func := "sundial/sundiallaw11.TaskLedgers", spec := "taskLedgers", apart := false }
def TaskLedgersSaid : Prop := taskLedgersRow.holds Try.pinned (OpenSpec.ofChange taskLedgersSpec)

/-- ITS FALSE NEIGHBOUR: 'it returns false'. Refute it at one input. -/
def taskLedgersWrong : ChangeSpec := { name := "taskLedgers", fn := fun _ => fun
  | [d] => { results := [.lit (.bool false)], args := [d] }
  | _ => none }
def TaskLedgersWrongFalsely : Prop := taskLedgersRow.holds Try.pinned (OpenSpec.ofChange taskLedgersWrong)

/- THE SECOND FORM. 'bulk': how many values and letters a reading holds, each counted each time it is reached (what is shared counts as often as it is met; a slice's spare places count too). A statement '..UptoSaid' is the law's where the arguments, and the package variables that the reading takes, are together of bulk at most 1048576: NARROWER than '..Said'. Prove '..Said' where nothing that the law and all that it calls make is longer than what came in: it says more and counts as full. Else prove '..UptoSaid'. A law counts once. -/
mutual
def uptoBulk {H : Type} : DataW H → Nat
  | .lit (.string bytes) => bytes.length + 1
  | .lit _ => 1
  | .nil => 1
  | .ptr d => uptoBulk d + 1
  | .slice elems spare => uptoBulkAll elems + uptoBulkAll spare + 1
  | .agg parts => uptoBulkAll parts + 1
  | .iface _ d => uptoBulk d + 1
  | .map entries => uptoBulkEntries entries + 1
  | .held _ => 1
def uptoBulkAll {H : Type} : List (DataW H) → Nat
  | [] => 0
  | d :: r => uptoBulk d + uptoBulkAll r
def uptoBulkEntries {H : Type} : List (Lit × DataW H) → Nat
  | [] => 0
  | x :: r => uptoBulkEntry x + uptoBulkEntries r
def uptoBulkEntry {H : Type} : Lit × DataW H → Nat
  | (.string bytes, d) => bytes.length + uptoBulk d + 1
  | (_, d) => uptoBulk d + 1
 end
def uptoSmall : (H : Type) → List (DataW H) → Bool := fun _ ds => decide (uptoBulkAll ds ≤ 1048576)
def OpenSpec.upto (s : _root_.Go.ChangeSpec) : _root_.Go.OpenSpec := { _root_.Go.OpenSpec.ofChange s with cond := some uptoSmall }

/-- 'sundiallaw11.TaskScripts', WHERE WHAT IT READS IS OF BULK AT MOST 1048576: true; the input reads as it did. -/
def taskScriptsUptoRow : OpenClaim := { program := "ythlamnghbdaaiaa", sum := "9d8b2ef24d18c52ce577dc770fa6f2f9921c04356079edb60467dfe3645db781", func := "sundial/sundiallaw11.TaskScripts", spec := "taskScripts", apart := false, narrowed := true }
def TaskScriptsUptoSaid : Prop := taskScriptsUptoRow.holds Try.pinned (OpenSpec.upto taskScriptsSpec)

/-- 'sundiallaw11.TaskFlows', WHERE WHAT IT READS IS OF BULK AT MOST 1048576: true; the input reads as it did. -/
def taskFlowsUptoRow : OpenClaim := { program := "ythlamnghbdaaiaa", sum := "9d8b2ef24d18c52ce577dc770fa6f2f9921c04356079edb60467dfe3645db781", func := "sundial/sundiallaw11.TaskFlows", spec := "taskFlows", unfollowed := true, recurses := true, apart := false, narrowed := true }
def TaskFlowsUptoSaid : Prop := taskFlowsUptoRow.holds Try.pinned (OpenSpec.upto taskFlowsSpec)

/-- 'sundiallaw11.TaskLedgers', WHERE WHAT IT READS IS OF BULK AT MOST 1048576: true; the input reads as it did. -/
def taskLedgersUptoRow : OpenClaim := { program := "ythlamnghbdaaiaa", sum := "9d8b2ef24d18c52ce577dc770fa6f2f9921c04356079edb60467dfe3645db781", func := "sundial/sundiallaw11.TaskLedgers", spec := "taskLedgers", apart := false, narrowed := true }
def TaskLedgersUptoSaid : Prop := taskLedgersUptoRow.holds Try.pinned (OpenSpec.upto taskLedgersSpec)

end Rows
end Go.Proofs.Ythlamnghbdaaiaa
