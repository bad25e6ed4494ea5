import Derived.Test.YtlagghghbpbcbaaGreatDoorStartComesAllP1
import Derived.Test.YtlagghghbpbcbaaGreatDoorStartComesAllP8
import Derived.Test.YtlagghghbpbcbaaGreatDoorStartComesAllP7
/- Deeds and acts as rows of cells, and a deed in a box. No function is named. -/
namespace Go.Proofs.YtlagghghbpbcbaaGreatDoor.Task
open Go.ChangeShapes Go.WideShapes Go.RowKit CM DM Lay
set_option linter.unusedVariables false

abbrev encD : D → List Value := Open.enc5 .i64 .i64 .u64 .u64 .u64
theorem encD_length (x : D) : (encD x).length = 5 := rfl
theorem encD_one (x : D) : ∀ v ∈ encD x, v.oneCell' = true := by
  intro v hv
  simp [encD, Open.enc5] at hv
  rcases hv with rfl | rfl | rfl | rfl | rfl <;> rfl
abbrev encA : (Int × Int × Int × Int) → List Value := Open.enc4 .i64 .u64 .i64 .i64
theorem encA_one (x : Int × Int × Int × Int) : ∀ v ∈ encA x, v.oneCell' = true := by
  intro v hv
  simp [encA, Open.enc4] at hv
  rcases hv with rfl | rfl | rfl | rfl <;> rfl

/-- A boxed deed that nobody has turned. -/
theorem res5 {w wq : World} {v0 v1 v2 v3 v4 : Value} {t : TypeId} (h : Below (w.alloc (.cells #[v0, v1, v2, v3, v4] t)).heap.size (w.alloc (.cells #[v0, v1, v2, v3, v4] t)) wq) : (wq.cell? ⟨w.heap.size, 0, none⟩ = some v0 ∧ wq.cell? ⟨w.heap.size, 1, none⟩ = some v1 ∧ wq.cell? ⟨w.heap.size, 2, none⟩ = some v2 ∧ wq.cell? ⟨w.heap.size, 3, none⟩ = some v3 ∧ wq.cell? ⟨w.heap.size, 4, none⟩ = some v4) ∧
    wq.frozen? ⟨w.heap.size, 0, none⟩ = false ∧ wq.frozen? ⟨w.heap.size, 1, none⟩ = false ∧ wq.frozen? ⟨w.heap.size, 2, none⟩ = false ∧ wq.frozen? ⟨w.heap.size, 3, none⟩ = false ∧ wq.frozen? ⟨w.heap.size, 4, none⟩ = false := by
  have hb := (h.block w.heap.size (by simp)).trans (new_heap w _)
  exact ⟨⟨(cell_heap hb 0).1, (cell_heap hb 1).1, (cell_heap hb 2).1, (cell_heap hb 3).1, (cell_heap hb 4).1⟩, (cell_heap hb 0).2, (cell_heap hb 1).2, (cell_heap hb 2).2, (cell_heap hb 3).2, (cell_heap hb 4).2⟩
/-- A deed stored into a box: its cells, and nothing else. -/
theorem set5 {w wq : World} {v0 v1 v2 v3 v4 : Value} {t : TypeId} (h : Below (w.alloc (.cells #[v0, v1, v2, v3, v4] t)).heap.size (w.alloc (.cells #[v0, v1, v2, v3, v4] t)) wq) (u0 u1 u2 u3 u4 : Value) :
    let W := (((((wq.setCell ⟨w.heap.size, 0, none⟩ u0).setCell ⟨w.heap.size, 1, none⟩ u1).setCell ⟨w.heap.size, 2, none⟩ u2).setCell ⟨w.heap.size, 3, none⟩ u3).setCell ⟨w.heap.size, 4, none⟩ u4)
    (W.cell? ⟨w.heap.size, 0, none⟩ = some u0 ∧ W.cell? ⟨w.heap.size, 1, none⟩ = some u1 ∧ W.cell? ⟨w.heap.size, 2, none⟩ = some u2 ∧ W.cell? ⟨w.heap.size, 3, none⟩ = some u3 ∧ W.cell? ⟨w.heap.size, 4, none⟩ = some u4) ∧ Below w.heap.size w W := by
  have hb := set_heap (j := 4) (set_heap (j := 3) (set_heap (j := 2) (set_heap (j := 1) (set_heap (j := 0) ((h.block w.heap.size (by simp)).trans (new_heap w _)) u0) u1) u2) u3) u4
  have hw : Below w.heap.size w wq := ((Below.refl _ _).alloc (Nat.le_refl _) _).trans (h.mono (by simp))
  exact ⟨⟨(cell_heap hb 0).1, (cell_heap hb 1).1, (cell_heap hb 2).1, (cell_heap hb 3).1, (cell_heap hb 4).1⟩, ((((hw.setCell (Nat.le_refl _) _).setCell (Nat.le_refl _) _).setCell (Nat.le_refl _) _).setCell (Nat.le_refl _) _).setCell (Nat.le_refl _) _⟩
end Go.Proofs.YtlagghghbpbcbaaGreatDoor.Task
