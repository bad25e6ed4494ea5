/- The document's answers for layer 8 (package sundialref08), held to the same plain arithmetic. -/
import Derived.Test.YtlegknboccbdpaaPlanWalks
namespace Go.Proofs.Ytlegknboccbdpaa.PlanRef
set_option maxRecDepth 20000
open Go.ChangeShapes Go.WideShapes Go.RowKit PM Lay Plan

theorem Head_any (T S L G k : Int) (w : World) : Calls Try.prog 39 #[.agg #[.int .i64 T, .int .i64 S, .int .i64 L, .int .u64 G], .int .i64 k] w fun e w' => e = .returned (.int .i64 (ofI T 3 k)) ∧ Below w.heap.size w w' := by
  obtain ⟨c_0, c_1, c_2, c_3⟩ := box4 w (.int .i64 T) (.int .i64 S) (.int .i64 L) (.int .u64 G) 24
  go_enter Try.func39, Try.ntmps39
  go_wp2
  go_ret
  exact ⟨ret_i64 (ref_row T 3 k), box_below _ _⟩
theorem Slot_any (T S L G s k : Int) (w : World) : Calls Try.prog 28 #[.agg #[.int .i64 T, .int .i64 S, .int .i64 L, .int .u64 G], .int .i64 s, .int .i64 k] w fun e w' => e = .returned (.int .i64 (atI T L s k)) ∧ Below w.heap.size w w' := by
  obtain ⟨c_0, c_1, c_2, c_3⟩ := box4 w (.int .i64 T) (.int .i64 S) (.int .i64 L) (.int .u64 G) 24
  go_enter Try.func28, Try.ntmps28
  go_wp2
  go_ret
  exact ⟨ret_i64 (ref_slot T L s k), box_below _ _⟩
theorem Next_zero (T S L G k : Int) (w : World) : Calls Try.prog 24 #[.agg #[.int .i64 T, .int .i64 S, .int .i64 L, .int .u64 G], .int .i64 0, .int .i64 k] w fun e w' => e = .returned (.int .i64 (nextI T L 0 k)) ∧ Below w.heap.size w w' := by
  obtain ⟨c_0, c_1, c_2, c_3⟩ := box4 w (.int .i64 T) (.int .i64 S) (.int .i64 L) (.int .u64 G) 24
  go_enter Try.func24, Try.ntmps24
  go_wp2_with fail
  refine (Head_any T S L G k _).mono ?_
  rintro e w' ⟨rfl, hb⟩
  go_wp2
  go_ret
  exact ⟨ret_i64 (next_zero T L k).symm, (box_below _ _).trans (hb.mono (by simp))⟩
theorem Next_some (T S L G s k : Int) (h : ¬ s = 0) (w : World) : Calls Try.prog 24 #[.agg #[.int .i64 T, .int .i64 S, .int .i64 L, .int .u64 G], .int .i64 s, .int .i64 k] w fun e w' => e = .returned (.int .i64 (nextI T L s k)) ∧ Below w.heap.size w w' := by
  obtain ⟨c_0, c_1, c_2, c_3⟩ := box4 w (.int .i64 T) (.int .i64 S) (.int .i64 L) (.int .u64 G) 24
  have h0 : (s == 0) = false := by simpa using h
  go_enter Try.func24, Try.ntmps24
  go_wp2_with fail
  refine (Slot_any T S L G s (wrap64 (6 + k)) _).mono ?_
  rintro e w' ⟨rfl, hb⟩
  go_wp2
  go_ret
  exact ⟨ret_i64 ((at_wrap T L s (6 + k)).trans (next_some h).symm), (box_below _ _).trans (hb.mono (by simp))⟩
theorem Next_any (T S L G s k : Int) (w : World) : Calls Try.prog 24 #[.agg #[.int .i64 T, .int .i64 S, .int .i64 L, .int .u64 G], .int .i64 s, .int .i64 k] w fun e w' => e = .returned (.int .i64 (nextI T L s k)) ∧ Below w.heap.size w w' := by
  by_cases h : s = 0
  · subst h; exact Next_zero T S L G k w
  · exact Next_some T S L G s k h w
end Go.Proofs.Ytlegknboccbdpaa.PlanRef
