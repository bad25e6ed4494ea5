/- The document's answers for layer 8 (package sundialref08), held to the same plain arithmetic. -/
import Derived.Test.YtoeiiodnpoldbaaPlanWalks
namespace Go.Proofs.Ytoeiiodnpoldbaa.PlanRef
set_option maxRecDepth 20000
open Go.ChangeShapes Go.WideShapes Go.RowKit PM Lay Plan

theorem Slot_any (T S L G s k : Int) (w : World) : Calls Try.prog 21 #[.agg #[.int .i64 T, .int .i64 S, .int .i64 L, .int .u64 G], .int .i64 s, .int .i64 k] w fun e w' => e = .returned (.int .i64 (atI T L s k)) ∧ Below w.heap.size w w' := by
  obtain ⟨c_0, c_1, c_2, c_3⟩ := box4 w (.int .i64 T) (.int .i64 S) (.int .i64 L) (.int .u64 G) 24
  go_enter Try.func21, Try.ntmps21
  go_wp2
  go_ret
  exact ⟨ret_i64 (ref_slot T L s k), box_below _ _⟩
end Go.Proofs.Ytoeiiodnpoldbaa.PlanRef
