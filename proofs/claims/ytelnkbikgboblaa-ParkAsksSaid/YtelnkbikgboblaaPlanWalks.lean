/- The functions of package plan (layer 8), each held to plain arithmetic, at every plan and all numbers: what each call returns; what lay in memory ahead stays as it was. -/
import Derived.Test.YtelnkbikgboblaaRows
import Derived.Test.YtelnkbikgboblaaLay
import Derived.Test.YtelnkbikgboblaaPlanMath
import Derived.WalkKit
import Derived.ProofKit
import Derived.Lib.Hide
namespace Go.Proofs.Ytelnkbikgboblaa.Plan
set_option maxRecDepth 20000
open Go.ChangeShapes Go.WideShapes Go.RowKit PM Lay

theorem ret_i64 {a b : Int} (h : a = b) : Ending.returned (.int .i64 a) = .returned (.int .i64 b) := by rw [h]
theorem ret_bool {a b : Bool} (h : a = b) : Ending.returned (.bool a) = .returned (.bool b) := by rw [h]
theorem mixed : Try.prog.follows .mixedOrders = true := by kernel_rfl

/-- The four cells of a boxed plan. -/
theorem box4 (w : World) (v0 v1 v2 v3 : Value) (t : TypeId) : (w.alloc (.cells #[v0, v1, v2, v3] t)).cell? ⟨w.heap.size, 0, none⟩ = some v0 ∧ (w.alloc (.cells #[v0, v1, v2, v3] t)).cell? ⟨w.heap.size, 1, none⟩ = some v1 ∧
    (w.alloc (.cells #[v0, v1, v2, v3] t)).cell? ⟨w.heap.size, 2, none⟩ = some v2 ∧ (w.alloc (.cells #[v0, v1, v2, v3] t)).cell? ⟨w.heap.size, 3, none⟩ = some v3 := by
  refine ⟨?_, ?_, ?_, ?_⟩ <;> (rw [cell_of_row _ _ _ _ _ _ (heap_alloc_new w _)]; rfl)
theorem box4_later {w wr : World} {v0 v1 v2 v3 : Value} {t : TypeId} (hb : Below (w.heap.size + 1) (w.alloc (.cells #[v0, v1, v2, v3] t)) wr) : wr.cell? ⟨w.heap.size, 0, none⟩ = some v0 ∧ wr.cell? ⟨w.heap.size, 1, none⟩ = some v1 ∧ wr.cell? ⟨w.heap.size, 2, none⟩ = some v2 ∧ wr.cell? ⟨w.heap.size, 3, none⟩ = some v3 :=
  ⟨box_cell hb 0, box_cell hb 1, box_cell hb 2, box_cell hb 3⟩
theorem box_below (w : World) (o : Obj) : Below w.heap.size w (w.alloc o) := (Below.refl _ _).alloc (Nat.le_refl _) _


theorem row_any (T S L G n : Int) (w : World) : Calls Try.prog 16 #[.agg #[.int .i64 T, .int .i64 S, .int .i64 L, .int .u64 G], .int .i64 n] w fun e w' => e = .returned (.int .i64 (rowI T n)) ∧ Below w.heap.size w w' := by
  go_enter Try.func16, Try.ntmps16
  go_wp2
  go_ret
  exact ⟨ret_i64 (by unfold rowI; rw [add_r]), box_below _ _⟩
theorem Sem_any (T S L G k : Int) (w : World) : Calls Try.prog 10 #[.agg #[.int .i64 T, .int .i64 S, .int .i64 L, .int .u64 G], .int .i64 k] w fun e w' => e = .returned (.int .i64 (ofI T 2 k)) ∧ Below w.heap.size w w' := by
  obtain ⟨c_0, c_1, c_2, c_3⟩ := box4 w (.int .i64 T) (.int .i64 S) (.int .i64 L) (.int .u64 G) 24
  go_enter Try.func10, Try.ntmps10
  go_wp2_with fail
  refine (row_any T S L G 2 _).mono ?_
  rintro e w' ⟨rfl, hb⟩
  go_wp2
  go_ret
  exact ⟨ret_i64 (row_of T 2 k), (box_below _ _).trans (hb.mono (by simp))⟩
end Go.Proofs.Ytelnkbikgboblaa.Plan
