/- The document's place of a way on (sundialref18.Next) alone: a seat without keys has no XSeekRef. -/
import Derived.Test.YtlegknboccbdpaaPlanRef
import Derived.Test.YtlegknboccbdpaaReferRef
import Derived.Test.YtlegknboccbdpaaSeekMath
import Derived.Test.YtlegknboccbdpaaOnly
namespace Go.Proofs.Ytlegknboccbdpaa.NextRef
set_option maxRecDepth 20000
open Go.ChangeShapes Go.WideShapes Go.RowKit PM CM KM Lay Plan
set_option linter.unusedVariables false
set_option linter.unusedSimpArgs false
theorem Next_any (T N L G h : Int) {r : Int} (hr : 0 ≤ r ∧ r < 18446744073709551616) (w : World) : Calls Try.prog 31 #[.agg #[.int .i64 T, .int .i64 N, .int .i64 L, .int .u64 G], .int .u64 r, .int .i64 h] w fun e w' => e = .returned (.int .i64 (nextI T L (idx r) h)) ∧ Below w.heap.size w w' := by
  obtain ⟨c_0, c_1, c_2, c_3⟩ := box4 w (.int .i64 T) (.int .i64 N) (.int .i64 L) (.int .u64 G) 24
  have C_0 := fun p : After (w.alloc (.cells #[.int .i64 T, .int .i64 N, .int .i64 L, .int .u64 G] 24)) => p.cell c_0
  have C_1 := fun p : After (w.alloc (.cells #[.int .i64 T, .int .i64 N, .int .i64 L, .int .u64 G] 24)) => p.cell c_1
  have C_2 := fun p : After (w.alloc (.cells #[.int .i64 T, .int .i64 N, .int .i64 L, .int .u64 G] 24)) => p.cell c_2
  have C_3 := fun p : After (w.alloc (.cells #[.int .i64 T, .int .i64 N, .int .i64 L, .int .u64 G] 24)) => p.cell c_3
  have HI := Lib.hid fun W => Ref02.Index_any r hr.1 hr.2 W
  have HN := Lib.hid fun W => PlanRef.Next_any T N L G (idx r) h W
  unfold idx at HN ⊢
  generalize r % 4294967296 / 2 = i at HI HN ⊢
  clear hr c_0 c_1 c_2 c_3
  go_enter Try.func31, Try.ntmps31
  go_wp2
  refine wp_region_after mixed (by kernel_rfl) ?_
  repeat (first | go_big_quiet_step ((first | (with_reducible exact calls_after_same (HI.out _)) | exact calls_after (HN.out _))) | quiet_step ((first | (with_reducible exact calls_after_same (HI.out _)) | exact calls_after (HN.out _))))
  refine wpQuiet_nil ?_
  intro _ hw'
  obtain ⟨pq, hw''⟩ := hw'
  subst hw''
  go_wp2
  go_ret
  exact ⟨rfl, (box_below _ _).trans (pq.ok.mono (by simp))⟩
end Go.Proofs.Ytlegknboccbdpaa.NextRef
