/- The document's answers for layer 8 (package sundialref08), held to the same plain arithmetic. -/
import Derived.Test.YtelnkbikgboblaaPlanWalks
namespace Go.Proofs.Ytelnkbikgboblaa.PlanRef
set_option maxRecDepth 20000
open Go.ChangeShapes Go.WideShapes Go.RowKit PM Lay Plan

theorem Sem_any (T S L G k : Int) (w : World) : Calls Try.prog 13 #[.agg #[.int .i64 T, .int .i64 S, .int .i64 L, .int .u64 G], .int .i64 k] w fun e w' => e = .returned (.int .i64 (ofI T 2 k)) ∧ Below w.heap.size w w' := by
  obtain ⟨c_0, c_1, c_2, c_3⟩ := box4 w (.int .i64 T) (.int .i64 S) (.int .i64 L) (.int .u64 G) 24
  go_enter Try.func13, Try.ntmps13
  go_wp2
  go_ret
  exact ⟨ret_i64 (ref_row T 2 k), box_below _ _⟩
end Go.Proofs.Ytelnkbikgboblaa.PlanRef
