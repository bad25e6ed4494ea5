import Derived.Test.YtlegknboccbdpaaDoorRows
import Derived.Test.YtlegknboccbdpaaDoorScanSeesAllP2
import Derived.Test.YtlegknboccbdpaaDoorScanSeesAllP1
import Derived.WalkKit
import Derived.ProofKit
import Derived.Lib.Hide
/- The functions of package plan (layer 8), each held to plain arithmetic, at every plan and all numbers: what each call returns; what lay in memory ahead stays as it was. -/
namespace Go.Proofs.YtlegknboccbdpaaDoor.Plan
set_option maxRecDepth 20000
open Go.ChangeShapes Go.WideShapes Go.RowKit PM Lay

theorem ret_i64 {a b : Int} (h : a = b) : Ending.returned (.int .i64 a) = .returned (.int .i64 b) := by rw [h]
theorem ret_bool {a b : Bool} (h : a = b) : Ending.returned (.bool a) = .returned (.bool b) := by rw [h]
theorem mixed : Tryd.prog.follows .mixedOrders = true := by kernel_rfl

/-- The four cells of a boxed plan. -/
theorem box4 (w : World) (v0 v1 v2 v3 : Value) (t : TypeId) : (w.alloc (.cells #[v0, v1, v2, v3] t)).cell? ⟨w.heap.size, 0, none⟩ = some v0 ∧ (w.alloc (.cells #[v0, v1, v2, v3] t)).cell? ⟨w.heap.size, 1, none⟩ = some v1 ∧
    (w.alloc (.cells #[v0, v1, v2, v3] t)).cell? ⟨w.heap.size, 2, none⟩ = some v2 ∧ (w.alloc (.cells #[v0, v1, v2, v3] t)).cell? ⟨w.heap.size, 3, none⟩ = some v3 := by
  refine ⟨?_, ?_, ?_, ?_⟩ <;> (rw [cell_of_row _ _ _ _ _ _ (heap_alloc_new w _)]; rfl)
theorem box4_later {w wr : World} {v0 v1 v2 v3 : Value} {t : TypeId} (hb : Below (w.heap.size + 1) (w.alloc (.cells #[v0, v1, v2, v3] t)) wr) : wr.cell? ⟨w.heap.size, 0, none⟩ = some v0 ∧ wr.cell? ⟨w.heap.size, 1, none⟩ = some v1 ∧ wr.cell? ⟨w.heap.size, 2, none⟩ = some v2 ∧ wr.cell? ⟨w.heap.size, 3, none⟩ = some v3 :=
  ⟨box_cell hb 0, box_cell hb 1, box_cell hb 2, box_cell hb 3⟩
theorem box_below (w : World) (o : Obj) : Below w.heap.size w (w.alloc o) := (Below.refl _ _).alloc (Nat.le_refl _) _


theorem row_any (T S L G n : Int) (w : World) : Calls Tryd.prog 45 #[.agg #[.int .i64 T, .int .i64 S, .int .i64 L, .int .u64 G], .int .i64 n] w fun e w' => e = .returned (.int .i64 (rowI T n)) ∧ Below w.heap.size w w' := by
  go_enter Tryd.func45, Tryd.ntmps45
  go_wp2
  go_ret
  exact ⟨ret_i64 (by unfold rowI; rw [add_r]), box_below _ _⟩
theorem first_any (T S L G s : Int) (w : World) : Calls Tryd.prog 46 #[.agg #[.int .i64 T, .int .i64 S, .int .i64 L, .int .u64 G], .int .i64 s] w fun e w' => e = .returned (.int .i64 (atI T L s 0)) ∧ Below w.heap.size w w' := by
  obtain ⟨c_0, c_1, c_2, c_3⟩ := box4 w (.int .i64 T) (.int .i64 S) (.int .i64 L) (.int .u64 G) 24
  have C_0 := fun p : After (w.alloc (.cells #[.int .i64 T, .int .i64 S, .int .i64 L, .int .u64 G] 24)) => p.cell c_0
  have C_1 := fun p : After (w.alloc (.cells #[.int .i64 T, .int .i64 S, .int .i64 L, .int .u64 G] 24)) => p.cell c_1
  have C_2 := fun p : After (w.alloc (.cells #[.int .i64 T, .int .i64 S, .int .i64 L, .int .u64 G] 24)) => p.cell c_2
  have C_3 := fun p : After (w.alloc (.cells #[.int .i64 T, .int .i64 S, .int .i64 L, .int .u64 G] 24)) => p.cell c_3
  clear c_0 c_1 c_2 c_3
  go_enter Tryd.func46, Tryd.ntmps46
  go_wp2
  refine wp_region_after mixed (by kernel_rfl) ?_
  repeat (first | go_big_quiet_step (exact calls_after (row_any T S L G 3 _)) | quiet_step (exact calls_after (row_any T S L G 3 _)))
  refine wpQuiet_nil ?_
  intro _ hw'
  obtain ⟨pq, hw''⟩ := hw'
  subst hw''
  go_wp2
  go_ret
  exact ⟨ret_i64 (first_of T L s), (box_below _ _).trans (pq.ok.mono (by simp))⟩
theorem State_any (T S L G s : Int) (w : World) : Calls Tryd.prog 34 #[.agg #[.int .i64 T, .int .i64 S, .int .i64 L, .int .u64 G], .int .i64 s] w fun e w' => e = .returned (.int .i64 (atI T L s 0)) ∧ Below w.heap.size w w' := by
  obtain ⟨c_0, c_1, c_2, c_3⟩ := box4 w (.int .i64 T) (.int .i64 S) (.int .i64 L) (.int .u64 G) 24
  go_enter Tryd.func34, Tryd.ntmps34
  go_wp2_with fail
  refine (first_any T S L G s _).mono ?_
  rintro e w' ⟨rfl, hb⟩
  go_wp2
  go_ret
  exact ⟨ret_i64 (by first | exact at_of T L s 0 | exact w_w _), (box_below _ _).trans (hb.mono (by simp))⟩
theorem Dead_any (T S L G s : Int) (w : World) : Calls Tryd.prog 33 #[.agg #[.int .i64 T, .int .i64 S, .int .i64 L, .int .u64 G], .int .i64 s] w fun e w' => e = .returned (.int .i64 (atI T L s 1)) ∧ Below w.heap.size w w' := by
  obtain ⟨c_0, c_1, c_2, c_3⟩ := box4 w (.int .i64 T) (.int .i64 S) (.int .i64 L) (.int .u64 G) 24
  go_enter Tryd.func33, Tryd.ntmps33
  go_wp2_with fail
  refine (first_any T S L G s _).mono ?_
  rintro e w' ⟨rfl, hb⟩
  go_wp2
  go_ret
  exact ⟨ret_i64 (by first | exact at_of T L s 1 | exact w_w _), (box_below _ _).trans (hb.mono (by simp))⟩
theorem Next_zero (T S L G k : Int) (w : World) : Calls Tryd.prog 29 #[.agg #[.int .i64 T, .int .i64 S, .int .i64 L, .int .u64 G], .int .i64 0, .int .i64 k] w fun e w' => e = .returned (.int .i64 (nextI T L 0 k)) ∧ Below w.heap.size w w' := by
  obtain ⟨c_0, c_1, c_2, c_3⟩ := box4 w (.int .i64 T) (.int .i64 S) (.int .i64 L) (.int .u64 G) 24
  go_enter Tryd.func29, Tryd.ntmps29
  go_wp2_with fail
  refine (row_any T S L G 3 _).mono ?_
  rintro e w' ⟨rfl, hb⟩
  go_wp2
  go_ret
  exact ⟨ret_i64 ((row_of T 3 k).trans (next_zero T L k).symm), (box_below _ _).trans (hb.mono (by simp))⟩
theorem Next_some (T S L G s k : Int) (h : ¬ s = 0) (w : World) : Calls Tryd.prog 29 #[.agg #[.int .i64 T, .int .i64 S, .int .i64 L, .int .u64 G], .int .i64 s, .int .i64 k] w fun e w' => e = .returned (.int .i64 (nextI T L s k)) ∧ Below w.heap.size w w' := by
  obtain ⟨c_0, c_1, c_2, c_3⟩ := box4 w (.int .i64 T) (.int .i64 S) (.int .i64 L) (.int .u64 G) 24
  have h0 : (s == 0) = false := by simpa using h
  go_enter Tryd.func29, Tryd.ntmps29
  go_wp2_with fail
  refine (first_any T S L G s _).mono ?_
  rintro e w' ⟨rfl, hb⟩
  go_wp2
  go_ret
  exact ⟨ret_i64 ((at_next T L s k).trans (next_some h).symm), (box_below _ _).trans (hb.mono (by simp))⟩
theorem Next_any (T S L G s k : Int) (w : World) : Calls Tryd.prog 29 #[.agg #[.int .i64 T, .int .i64 S, .int .i64 L, .int .u64 G], .int .i64 s, .int .i64 k] w fun e w' => e = .returned (.int .i64 (nextI T L s k)) ∧ Below w.heap.size w w' := by
  by_cases h : s = 0
  · subst h; exact Next_zero T S L G k w
  · exact Next_some T S L G s k h w
end Go.Proofs.YtlegknboccbdpaaDoor.Plan
