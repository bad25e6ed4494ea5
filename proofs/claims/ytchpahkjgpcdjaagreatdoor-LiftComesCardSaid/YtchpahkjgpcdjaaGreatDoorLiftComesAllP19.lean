import Derived.Test.YtchpahkjgpcdjaaGreatDoorLiftComesAllP16
import Derived.Test.YtchpahkjgpcdjaaGreatDoorLiftComesAllP18
import Derived.Deep.DeepCutAuto
/- Law 21's example. -/
namespace Go.Proofs.YtchpahkjgpcdjaaGreatDoor.Law21
set_option maxRecDepth 20000
open Go.ChangeShapes Go.WideShapes Go.ChangeAt Go.RowKit CM DM PM KM LfM Runs Lay Plan Ints Go.Proofs.YtchpahkjgpcdjaaGreatDoor.Task
open Go.Proofs.YtchpahkjgpcdjaaGreatDoor.Lift (Lifts Lift_any Lift_next Lift_tell)
set_option linter.unusedVariables false
set_option linter.unusedSimpArgs false

theorem wf_u64 {a : Int} (h : (Lit.int .u64 a).wf = true) : 0 ≤ a ∧ a < 18446744073709551616 := by
  simp [Lit.wf, IntKind.min, IntKind.max, IntKind.signed, IntKind.bits] at h; omega
theorem wf_i64 {a : Int} (h : (Lit.int .i64 a).wf = true) : -9223372036854775808 ≤ a ∧ a ≤ 9223372036854775807 := by
  simp [Lit.wf, IntKind.min, IntKind.max, IntKind.signed, IntKind.bits] at h; omega
theorem ba (w : World) (o : Obj) : Below w.heap.size w (w.alloc o) := (Below.refl _ _).alloc (Nat.le_refl _) _
theorem chain {w a b : World} (h : Below w.heap.size w a) (k : Below a.heap.size a b) : Below w.heap.size w b := h.trans (k.mono h.size)
theorem five_later {w w' : World} {v0 v1 v2 v3 v4 : Value} {t : TypeId} {R : Nat → Prop} (ho : Only R (w.alloc (.cells #[v0, v1, v2, v3, v4] t)) w') (hr : ¬ R w.heap.size) :
    w'.cell? ⟨w.heap.size, 0, none⟩ = some v0 ∧ w'.cell? ⟨w.heap.size, 1, none⟩ = some v1 ∧ w'.cell? ⟨w.heap.size, 2, none⟩ = some v2 ∧ w'.cell? ⟨w.heap.size, 3, none⟩ = some v3 ∧ w'.cell? ⟨w.heap.size, 4, none⟩ = some v4 := by
  have hb := ho.heap (new_heap w (.cells #[v0, v1, v2, v3, v4] t)) hr
  exact ⟨(cell_heap hb 0).1, (cell_heap hb 1).1, (cell_heap hb 2).1, (cell_heap hb 3).1, (cell_heap hb 4).1⟩
theorem make_run (W : World) : (Instr.makeSlice 25 (.int .i64 2) (.int .i64 2)).run Tryz.prog W = .ok (.slice (some ⟨W.heap.size, 0, none⟩) 2 2) (W.alloc (.cells #[.int .u64 0, .int .u64 0] 22)) := by kernel_rfl
/-- Two zeros in a block. -/
theorem row_at {W : World} {j : Nat} (h : W.heap[j]? = some (.cells #[.int .u64 0, .int .u64 0] 22)) : Row W W.heap.size (some ⟨j, 0, none⟩) (flat (encZ .u64) [0, 0]) := fun _ =>
  ⟨j, 0, rfl, (Array.getElem?_eq_some_iff.1 h).1, fun k v hk => by
    have := (cell_heap h k).1
    rw [Nat.zero_add, this, show #[Value.int .u64 0, .int .u64 0] = (flat (encZ .u64) [0, 0]).toArray from rfl]
    rw [List.getElem?_toArray]
    exact hk⟩
/-- What stands in a block, of which all else is later. -/
theorem at_later {a b : World} {j : Nat} {o : Obj} (h : a.heap[j]? = some o) (hb : Below a.heap.size a b) : b.heap[j]? = some o := (hb.block j (Array.getElem?_eq_some_iff.1 h).1).trans h
/-- The example's lifter, behind one word, and behind two. -/
def ex0 : LfM.St := LfM.reach 2 1 0 [0, 0] [0, 0]
def ex1 : LfM.St := liftT 2 0 0 2 ex0 0
def ex2 : LfM.St := liftT 2 0 0 2 ex1 0
theorem ex0_is : ex0 = ⟨1, 1, 0, none, [0, 0], [0, 0]⟩ := reach_on (by decide)
theorem ex1_is : ex1 = ⟨3, 1, 0, none, [0, 0], [0, 0]⟩ := by
  unfold ex1
  rw [ex0_is, liftT_1]
  rfl
theorem ex2_is : ex2 = ⟨0, 2, 0, none, [0, 0], [0, 0]⟩ := by
  unfold ex2
  rw [ex1_is]
  exact (liftT_3 rfl).trans (reach_end (by decide))
theorem ex_n : liftA 1 2 2 (LfM.reach 1 1 0 [0, 0] [0, 0]) = none := by rw [reach_end (by decide), liftA_0]
theorem ex_a : liftA 1 2 2 ex0 = some (1, nextI 1 2 1 1, 0, 0, 2) := by rw [ex0_is, liftA_1]; rfl
theorem ex_b : liftA 1 2 2 ex1 = some (3, nextI 1 2 0 1, 0, 2, 0) := by rw [ex1_is, liftA_3]; rfl
theorem ex_c : liftA 1 2 2 ex2 = none := by rw [ex2_is, liftA_0]
theorem past2 {w W : World} {o1 o2 : Obj} (h : Below ((((w.alloc (.cells #[.int .i64 1, .int .i64 1, .int .i64 2, .int .u64 0] 24)).alloc o1).alloc o2).drew).heap.size ((((w.alloc (.cells #[.int .i64 1, .int .i64 1, .int .i64 2, .int .u64 0] 24)).alloc o1).alloc o2).drew) W) : Below (w.alloc (.cells #[.int .i64 1, .int .i64 1, .int .i64 2, .int .u64 0] 24)).heap.size (w.alloc (.cells #[.int .i64 1, .int .i64 1, .int .i64 2, .int .u64 0] 24)) W := (((ba (w.alloc (.cells #[.int .i64 1, .int .i64 1, .int .i64 2, .int .u64 0] 24)) o1).alloc (by simp) o2).drew).trans (h.mono (by simp [World.drew]))
theorem past3 {w W : World} {o1 o2 o3 : Obj} (h : Below (((((w.alloc (.cells #[.int .i64 1, .int .i64 1, .int .i64 2, .int .u64 0] 24)).alloc o1).alloc o2).alloc o3).drew).heap.size (((((w.alloc (.cells #[.int .i64 1, .int .i64 1, .int .i64 2, .int .u64 0] 24)).alloc o1).alloc o2).alloc o3).drew) W) : Below (w.alloc (.cells #[.int .i64 1, .int .i64 1, .int .i64 2, .int .u64 0] 24)).heap.size (w.alloc (.cells #[.int .i64 1, .int .i64 1, .int .i64 2, .int .u64 0] 24)) W := ((((ba (w.alloc (.cells #[.int .i64 1, .int .i64 1, .int .i64 2, .int .u64 0] 24)) o1).alloc (by simp) o2).alloc (by simp) o3).drew).trans (h.mono (by simp [World.drew]))
theorem at21 (w : World) (o1 o2 : Obj) : ((((w.alloc (.cells #[.int .i64 1, .int .i64 1, .int .i64 2, .int .u64 0] 24)).alloc o1).alloc o2).drew).heap[w.heap.size + 1]? = some o1 := by
  have h := at_later (new_heap (w.alloc (.cells #[.int .i64 1, .int .i64 1, .int .i64 2, .int .u64 0] 24)) o1) (ba _ o2)
  simp only [World.size_alloc] at h; exact h
theorem at22 (w : World) (o1 o2 : Obj) : ((((w.alloc (.cells #[.int .i64 1, .int .i64 1, .int .i64 2, .int .u64 0] 24)).alloc o1).alloc o2).drew).heap[w.heap.size + 1 + 1]? = some o2 := by
  have h := new_heap ((w.alloc (.cells #[.int .i64 1, .int .i64 1, .int .i64 2, .int .u64 0] 24)).alloc o1) o2
  simp only [World.size_alloc] at h; exact h
theorem at31 (w : World) (o1 o2 o3 : Obj) : (((((w.alloc (.cells #[.int .i64 1, .int .i64 1, .int .i64 2, .int .u64 0] 24)).alloc o1).alloc o2).alloc o3).drew).heap[w.heap.size + 1]? = some o1 := by
  have h := at_later (new_heap (w.alloc (.cells #[.int .i64 1, .int .i64 1, .int .i64 2, .int .u64 0] 24)) o1) ((ba _ o2).alloc (by simp) o3)
  simp only [World.size_alloc] at h; exact h
theorem at32 (w : World) (o1 o2 o3 : Obj) : (((((w.alloc (.cells #[.int .i64 1, .int .i64 1, .int .i64 2, .int .u64 0] 24)).alloc o1).alloc o2).alloc o3).drew).heap[w.heap.size + 1 + 1]? = some o2 := by
  have h := at_later (new_heap ((w.alloc (.cells #[.int .i64 1, .int .i64 1, .int .i64 2, .int .u64 0] 24)).alloc o1) o2) (ba _ o3)
  simp only [World.size_alloc] at h; exact h
theorem at33 (w : World) (o1 o2 o3 : Obj) : (((((w.alloc (.cells #[.int .i64 1, .int .i64 1, .int .i64 2, .int .u64 0] 24)).alloc o1).alloc o2).alloc o3).drew).heap[w.heap.size + 1 + 1 + 1]? = some o3 := by
  have h := new_heap (((w.alloc (.cells #[.int .i64 1, .int .i64 1, .int .i64 2, .int .u64 0] 24)).alloc o1).alloc o2) o3
  simp only [World.size_alloc] at h; exact h
theorem zero_1 {w W : World} {o2 o3 : Obj} (h : Below ((((w.alloc (.cells #[.int .i64 1, .int .i64 1, .int .i64 2, .int .u64 0] 24)).alloc (.cells #[.int .i64 0, .int .i64 0, .int .u64 0, .int .u64 0, .int .u64 0] 54)).alloc o2).alloc o3).drew.heap.size ((((w.alloc (.cells #[.int .i64 1, .int .i64 1, .int .i64 2, .int .u64 0] 24)).alloc (.cells #[.int .i64 0, .int .i64 0, .int .u64 0, .int .u64 0, .int .u64 0] 54)).alloc o2).alloc o3).drew W) : W.heap[w.heap.size + 1]? = some (.cells #[.int .i64 0, .int .i64 0, .int .u64 0, .int .u64 0, .int .u64 0] 54) := at_later (at31 w _ _ _) h
theorem zero_2 {w W : World} {o1 o3 : Obj} (h : Below ((((w.alloc (.cells #[.int .i64 1, .int .i64 1, .int .i64 2, .int .u64 0] 24)).alloc o1).alloc (.cells #[.int .i64 0, .int .i64 0, .int .u64 0, .int .u64 0, .int .u64 0] 54)).alloc o3).drew.heap.size ((((w.alloc (.cells #[.int .i64 1, .int .i64 1, .int .i64 2, .int .u64 0] 24)).alloc o1).alloc (.cells #[.int .i64 0, .int .i64 0, .int .u64 0, .int .u64 0, .int .u64 0] 54)).alloc o3).drew W) : W.heap[w.heap.size + 1 + 1]? = some (.cells #[.int .i64 0, .int .i64 0, .int .u64 0, .int .u64 0, .int .u64 0] 54) := at_later (at32 w _ _ _) h
theorem zero_3 {w W : World} {o1 o2 : Obj} (h : Below ((((w.alloc (.cells #[.int .i64 1, .int .i64 1, .int .i64 2, .int .u64 0] 24)).alloc o1).alloc o2).alloc (.cells #[.int .i64 0, .int .i64 0, .int .u64 0, .int .u64 0, .int .u64 0] 54)).drew.heap.size ((((w.alloc (.cells #[.int .i64 1, .int .i64 1, .int .i64 2, .int .u64 0] 24)).alloc o1).alloc o2).alloc (.cells #[.int .i64 0, .int .i64 0, .int .u64 0, .int .u64 0, .int .u64 0] 54)).drew W) : W.heap[w.heap.size + 1 + 1 + 1]? = some (.cells #[.int .i64 0, .int .i64 0, .int .u64 0, .int .u64 0, .int .u64 0] 54) := at_later (at33 w _ _ _) h
theorem past_set {w W : World} {j : Nat} (h : Below (w.alloc (.cells #[.int .i64 1, .int .i64 1, .int .i64 2, .int .u64 0] 24)).heap.size (w.alloc (.cells #[.int .i64 1, .int .i64 1, .int .i64 2, .int .u64 0] 24)) W) (hj : w.heap.size + 1 ≤ j) (u0 u1 u2 u3 u4 : Value) : Below (w.alloc (.cells #[.int .i64 1, .int .i64 1, .int .i64 2, .int .u64 0] 24)).heap.size (w.alloc (.cells #[.int .i64 1, .int .i64 1, .int .i64 2, .int .u64 0] 24)) ((((((W.setCell ⟨j, 0, none⟩ u0).setCell ⟨j, 1, none⟩ u1).setCell ⟨j, 2, none⟩ u2).setCell ⟨j, 3, none⟩ u3).setCell ⟨j, 4, none⟩ u4)) := by
  have hz : (w.alloc (.cells #[.int .i64 1, .int .i64 1, .int .i64 2, .int .u64 0] 24)).heap.size ≤ j := by rw [World.size_alloc]; exact hj
  exact ((((h.setCell hz _).setCell hz _).setCell hz _).setCell hz _).setCell hz _
theorem cells_five {W : World} {k : Nat} {v0 v1 v2 v3 v4 : Value} {t : TypeId} (h : W.heap[k]? = some (.cells #[v0, v1, v2, v3, v4] t (0, 0))) : (W.cell? ⟨k, 0, none⟩ = some v0 ∧ W.cell? ⟨k, 1, none⟩ = some v1 ∧ W.cell? ⟨k, 2, none⟩ = some v2 ∧ W.cell? ⟨k, 3, none⟩ = some v3 ∧ W.cell? ⟨k, 4, none⟩ = some v4) ∧
    W.frozen? ⟨k, 0, none⟩ = false ∧ W.frozen? ⟨k, 1, none⟩ = false ∧ W.frozen? ⟨k, 2, none⟩ = false ∧ W.frozen? ⟨k, 3, none⟩ = false ∧ W.frozen? ⟨k, 4, none⟩ = false :=
  ⟨⟨(cell_heap h 0).1, (cell_heap h 1).1, (cell_heap h 2).1, (cell_heap h 3).1, (cell_heap h 4).1⟩, (cell_heap h 0).2, (cell_heap h 1).2, (cell_heap h 2).2, (cell_heap h 3).2, (cell_heap h 4).2⟩
theorem stay_past {w W : World} (h : Below (w.alloc (.cells #[.int .i64 1, .int .i64 1, .int .i64 2, .int .u64 0] 24)).heap.size (w.alloc (.cells #[.int .i64 1, .int .i64 1, .int .i64 2, .int .u64 0] 24)) W) : (W.cell? ⟨w.heap.size, 0, none⟩ = some (.int .i64 1) ∧ W.cell? ⟨w.heap.size, 1, none⟩ = some (.int .i64 1) ∧ W.cell? ⟨w.heap.size, 2, none⟩ = some (.int .i64 2) ∧ W.cell? ⟨w.heap.size, 3, none⟩ = some (.int .u64 0)) ∧ Below (w.alloc (.cells #[.int .i64 1, .int .i64 1, .int .i64 2, .int .u64 0] 24)).heap.size (w.alloc (.cells #[.int .i64 1, .int .i64 1, .int .i64 2, .int .u64 0] 24)) W := ⟨box4_later (by have h2 := h; rw [World.size_alloc] at h2; exact h2), h⟩
theorem stay_start (w : World) : (fun W : World => (W.cell? ⟨w.heap.size, 0, none⟩ = some (.int .i64 1) ∧ W.cell? ⟨w.heap.size, 1, none⟩ = some (.int .i64 1) ∧ W.cell? ⟨w.heap.size, 2, none⟩ = some (.int .i64 2) ∧ W.cell? ⟨w.heap.size, 3, none⟩ = some (.int .u64 0)) ∧ Below (w.alloc (.cells #[.int .i64 1, .int .i64 1, .int .i64 2, .int .u64 0] 24)).heap.size (w.alloc (.cells #[.int .i64 1, .int .i64 1, .int .i64 2, .int .u64 0] 24)) W) (w.alloc (.cells #[.int .i64 1, .int .i64 1, .int .i64 2, .int .u64 0] 24)) := stay_past (Below.refl _ _)
theorem keepD {w W : World} (h : (W.cell? ⟨w.heap.size, 0, none⟩ = some (.int .i64 1) ∧ W.cell? ⟨w.heap.size, 1, none⟩ = some (.int .i64 1) ∧ W.cell? ⟨w.heap.size, 2, none⟩ = some (.int .i64 2) ∧ W.cell? ⟨w.heap.size, 3, none⟩ = some (.int .u64 0)) ∧ Below (w.alloc (.cells #[.int .i64 1, .int .i64 1, .int .i64 2, .int .u64 0] 24)).heap.size (w.alloc (.cells #[.int .i64 1, .int .i64 1, .int .i64 2, .int .u64 0] 24)) W) : (fun W : World => (W.cell? ⟨w.heap.size, 0, none⟩ = some (.int .i64 1) ∧ W.cell? ⟨w.heap.size, 1, none⟩ = some (.int .i64 1) ∧ W.cell? ⟨w.heap.size, 2, none⟩ = some (.int .i64 2) ∧ W.cell? ⟨w.heap.size, 3, none⟩ = some (.int .u64 0)) ∧ Below (w.alloc (.cells #[.int .i64 1, .int .i64 1, .int .i64 2, .int .u64 0] 24)).heap.size (w.alloc (.cells #[.int .i64 1, .int .i64 1, .int .i64 2, .int .u64 0] 24)) W) W.drew := stay_past h.2.drew
theorem keepA {w W : World} {o : Obj} (h : (W.cell? ⟨w.heap.size, 0, none⟩ = some (.int .i64 1) ∧ W.cell? ⟨w.heap.size, 1, none⟩ = some (.int .i64 1) ∧ W.cell? ⟨w.heap.size, 2, none⟩ = some (.int .i64 2) ∧ W.cell? ⟨w.heap.size, 3, none⟩ = some (.int .u64 0)) ∧ Below (w.alloc (.cells #[.int .i64 1, .int .i64 1, .int .i64 2, .int .u64 0] 24)).heap.size (w.alloc (.cells #[.int .i64 1, .int .i64 1, .int .i64 2, .int .u64 0] 24)) W) : (fun W : World => (W.cell? ⟨w.heap.size, 0, none⟩ = some (.int .i64 1) ∧ W.cell? ⟨w.heap.size, 1, none⟩ = some (.int .i64 1) ∧ W.cell? ⟨w.heap.size, 2, none⟩ = some (.int .i64 2) ∧ W.cell? ⟨w.heap.size, 3, none⟩ = some (.int .u64 0)) ∧ Below (w.alloc (.cells #[.int .i64 1, .int .i64 1, .int .i64 2, .int .u64 0] 24)).heap.size (w.alloc (.cells #[.int .i64 1, .int .i64 1, .int .i64 2, .int .u64 0] 24)) W) (W.alloc o) := stay_past (h.2.alloc h.2.size o)
theorem keepS {w W : World} {j : Nat} {u0 u1 u2 u3 u4 : Value} (h : (W.cell? ⟨w.heap.size, 0, none⟩ = some (.int .i64 1) ∧ W.cell? ⟨w.heap.size, 1, none⟩ = some (.int .i64 1) ∧ W.cell? ⟨w.heap.size, 2, none⟩ = some (.int .i64 2) ∧ W.cell? ⟨w.heap.size, 3, none⟩ = some (.int .u64 0)) ∧ Below (w.alloc (.cells #[.int .i64 1, .int .i64 1, .int .i64 2, .int .u64 0] 24)).heap.size (w.alloc (.cells #[.int .i64 1, .int .i64 1, .int .i64 2, .int .u64 0] 24)) W) (hj : w.heap.size + 1 ≤ j) : (fun W : World => (W.cell? ⟨w.heap.size, 0, none⟩ = some (.int .i64 1) ∧ W.cell? ⟨w.heap.size, 1, none⟩ = some (.int .i64 1) ∧ W.cell? ⟨w.heap.size, 2, none⟩ = some (.int .i64 2) ∧ W.cell? ⟨w.heap.size, 3, none⟩ = some (.int .u64 0)) ∧ Below (w.alloc (.cells #[.int .i64 1, .int .i64 1, .int .i64 2, .int .u64 0] 24)).heap.size (w.alloc (.cells #[.int .i64 1, .int .i64 1, .int .i64 2, .int .u64 0] 24)) W) ((((((W.setCell ⟨j, 0, none⟩ u0).setCell ⟨j, 1, none⟩ u1).setCell ⟨j, 2, none⟩ u2).setCell ⟨j, 3, none⟩ u3).setCell ⟨j, 4, none⟩ u4)) := stay_past (past_set h.2 hj u0 u1 u2 u3 u4)
theorem le1 (w : World) : w.heap.size + 1 ≤ w.heap.size + 1 := Nat.le_refl _
theorem le2 (w : World) : w.heap.size + 1 ≤ w.heap.size + 1 + 1 := by omega
theorem le3 (w : World) : w.heap.size + 1 ≤ w.heap.size + 1 + 1 + 1 := by omega
theorem past_more {w w2 w3 : World} (h : Below (w.alloc (.cells #[.int .i64 1, .int .i64 1, .int .i64 2, .int .u64 0] 24)).heap.size (w.alloc (.cells #[.int .i64 1, .int .i64 1, .int .i64 2, .int .u64 0] 24)) w2) (b : Below w2.heap.size w2 w3) : Below (w.alloc (.cells #[.int .i64 1, .int .i64 1, .int .i64 2, .int .u64 0] 24)).heap.size (w.alloc (.cells #[.int .i64 1, .int .i64 1, .int .i64 2, .int .u64 0] 24)) w3 := h.trans (b.mono h.size)
theorem past_mid {w w2 w3 : World} {o : Obj} (h : Below (w.alloc (.cells #[.int .i64 1, .int .i64 1, .int .i64 2, .int .u64 0] 24)).heap.size (w.alloc (.cells #[.int .i64 1, .int .i64 1, .int .i64 2, .int .u64 0] 24)) w2) (b : Below (w2.alloc o).heap.size (w2.alloc o) w3) : Below (w.alloc (.cells #[.int .i64 1, .int .i64 1, .int .i64 2, .int .u64 0] 24)).heap.size (w.alloc (.cells #[.int .i64 1, .int .i64 1, .int .i64 2, .int .u64 0] 24)) w3 := past_more h ((box_below w2 o).trans (b.mono (by simp)))
theorem past_lt {w w2 : World} (h : Below (w.alloc (.cells #[.int .i64 1, .int .i64 1, .int .i64 2, .int .u64 0] 24)).heap.size (w.alloc (.cells #[.int .i64 1, .int .i64 1, .int .i64 2, .int .u64 0] 24)) w2) : w.heap.size + 1 ≤ w2.heap.size := by have := h.size; rwa [World.size_alloc] at this
theorem le_past {w w2 w3 : World} (h : Below (w.alloc (.cells #[.int .i64 1, .int .i64 1, .int .i64 2, .int .u64 0] 24)).heap.size (w.alloc (.cells #[.int .i64 1, .int .i64 1, .int .i64 2, .int .u64 0] 24)) w2) (b : Below w2.heap.size w2 w3) : w.heap.size + 1 ≤ w3.heap.size := past_lt (past_more h b)
theorem atb1 (B : World) (o1 o2 : Obj) : (((B.alloc o1).alloc o2).drew).heap[B.heap.size]? = some o1 := at_later (new_heap B o1) (ba (B.alloc o1) o2).drew
theorem atb2 (B : World) (o1 o2 : Obj) : (((B.alloc o1).alloc o2).drew).heap[B.heap.size + 1]? = some o2 := by
  have h := new_heap (B.alloc o1) o2
  simp only [World.size_alloc] at h; exact h
theorem past_two {B W : World} {o1 o2 : Obj} (h : Below (((B.alloc o1).alloc o2).drew).heap.size (((B.alloc o1).alloc o2).drew) W) : Below B.heap.size B W := ((ba B o1).alloc (by simp) o2).drew.trans (h.mono (by simp only [World.drew, World.size_alloc]; omega))
theorem below_two {w B W : World} {o1 o2 : Obj} {S : Nat → Prop} (h : Below (w.alloc (.cells #[.int .i64 1, .int .i64 1, .int .i64 2, .int .u64 0] 24)).heap.size (w.alloc (.cells #[.int .i64 1, .int .i64 1, .int .i64 2, .int .u64 0] 24)) B) (hk : ∀ k, S k → (((B.alloc o1).alloc o2).drew).heap.size ≤ k ∧ k < W.heap.size) : ∀ k, S k → w.heap.size < k := fun k e => by
  have h1 := (hk k e).1
  have h2 := past_lt h
  simp [World.drew] at h1
  omega
/-- Of height 1: made, and asked. -/
theorem one_any {W : World} {A B : Option Addr} (c1 c2 : Nat) (hA : Row W W.heap.size A (flat (encZ .u64) [0, 0])) (hB : Row W W.heap.size B (flat (encZ .u64) [0, 0])) : Calls Tryz.prog 24 #[.agg #[.int .i64 1, .int .i64 1, .int .i64 2, .int .u64 0], .int .u64 2, .agg #[.int .i64 0, .int .u64 0], .int .i64 1, .slice A 2 c1, .slice B 2 c2] W fun e w' => ∃ p, e = .returned (.pointer (some ⟨p, 0, none⟩)) ∧ Below W.heap.size W w' ∧
    ∀ W2, Below w'.heap.size w' W2 → Calls Tryz.prog 25 #[.pointer (some ⟨p, 0, none⟩)] W2 fun e w2 => e = .returned (.tuple #[.agg #[.int .i64 0, .int .i64 0, .int .u64 0, .int .u64 0, .int .u64 0], .bool false]) ∧ Below W2.heap.size W2 w2 := by
  refine (Lift_any 1 1 2 0 2 0 0 1 (by decide) ⟨by decide, by decide⟩ c1 c2 hA hB rfl rfl (by decide) (by decide) (fun x hx => ?_) (fun x hx => ?_)).mono ?_
  · simp at hx; subst hx; exact ⟨by decide, by decide⟩
  · simp at hx; subst hx; exact ⟨by decide, by decide⟩
  rintro e w' ⟨p, S, rfl, h, -, hb⟩
  refine ⟨p, rfl, hb, fun W2 h2 => ?_⟩
  have hn := Lift_next (h.later h2)
  rw [ex_n] at hn
  exact hn
theorem two_any {W : World} {A B : Option Addr} (c1 c2 : Nat) (hA : Row W W.heap.size A (flat (encZ .u64) [0, 0])) (hB : Row W W.heap.size B (flat (encZ .u64) [0, 0])) : Calls Tryz.prog 24 #[.agg #[.int .i64 1, .int .i64 1, .int .i64 2, .int .u64 0], .int .u64 2, .agg #[.int .i64 0, .int .u64 0], .int .i64 2, .slice A 2 c1, .slice B 2 c2] W fun e w' => ∃ p S, e = .returned (.pointer (some ⟨p, 0, none⟩)) ∧ Lifts w' p S 1 1 2 0 2 0 0 2 0 ex0 ∧ (∀ k, S k → W.heap.size ≤ k ∧ k < w'.heap.size) ∧ Below W.heap.size W w' :=
  Lift_any 1 1 2 0 2 0 0 2 (by decide) ⟨by decide, by decide⟩ c1 c2 hA hB rfl rfl (by decide) (by decide) (fun x hx => by simp at hx; subst hx; exact ⟨by decide, by decide⟩) (fun x hx => by simp at hx; subst hx; exact ⟨by decide, by decide⟩)
set_option maxHeartbeats 4000000 in
theorem awake_any (w : World) : Calls Tryz.prog 9 #[] w fun e w' => e = .returned (.bool true) ∧ Below w.heap.size w w' := by
  have HB0 := Lib.hid (box_below w (.cells #[.int .i64 1, .int .i64 1, .int .i64 2, .int .u64 0] 24))
  have HC := Lib.hid (box4 w (.int .i64 1) (.int .i64 1) (.int .i64 2) (.int .u64 0) 24)
  have HOF := Lib.hid (show ∀ W : World, Calls Tryz.prog 23 #[.int .u64 0, .int .i64 1] W fun e w' => e = .returned (.int .u64 2) ∧ W = w' from fun W => Refer.Of_any 0 1 (by decide) W)
  obtain ⟨c_0, c_1, c_2, c_3⟩ := HC.out
  have hmk := make_run
  go_enter Tryz.func9, Tryz.ntmps9
  go_wp2_with fail
  refine (HOF.out _).mono ?_
  rintro e w' ⟨rfl, rfl⟩
  go_upto_region 3 with fail
  go_cut [4] (fun s4 wx => s4 = .bool false ∧ Below (w.alloc (.cells #[.int .i64 1, .int .i64 1, .int .i64 2, .int .u64 0] 24)).heap.size (w.alloc (.cells #[.int .i64 1, .int .i64 1, .int .i64 2, .int .u64 0] 24)) wx)
  case first =>
    have HS0 := Lib.hid (stay_start w)
    go_region_held3 (fun W => (W.cell? ⟨w.heap.size, 0, none⟩ = some (.int .i64 1) ∧ W.cell? ⟨w.heap.size, 1, none⟩ = some (.int .i64 1) ∧ W.cell? ⟨w.heap.size, 2, none⟩ = some (.int .i64 2) ∧ W.cell? ⟨w.heap.size, 3, none⟩ = some (.int .u64 0)) ∧ Below (w.alloc (.cells #[.int .i64 1, .int .i64 1, .int .i64 2, .int .u64 0] 24)).heap.size (w.alloc (.cells #[.int .i64 1, .int .i64 1, .int .i64 2, .int .u64 0] 24)) W)
      ((first | (with_reducible exact keepD HS0.out) | (with_reducible assumption) | (with_reducible exact keepD (keepA HS0.out)) | (with_reducible exact keepD (keepA (keepA HS0.out))) | (with_reducible exact keepD (keepA (keepA (keepA HS0.out)))) | (with_reducible exact HS2.out) | (with_reducible exact keepA HS2.out) | (with_reducible exact HS3.out) | (with_reducible exact keepA HS3.out) | (with_reducible exact keepS HS3.out HJ3.out)))
      (first
        | (go_at_call 24; refine (one_any 2 2 (row_at (by (first | (with_reducible exact at21 _ _ _) | (with_reducible exact at22 _ _ _) | (with_reducible exact at31 _ _ _ _) | (with_reducible exact at32 _ _ _ _) | (with_reducible exact at33 _ _ _ _)))) (row_at (by (first | (with_reducible exact at21 _ _ _) | (with_reducible exact at22 _ _ _) | (with_reducible exact at31 _ _ _ _) | (with_reducible exact at32 _ _ _ _) | (with_reducible exact at33 _ _ _ _))))).mono ?_; rintro e w2 ⟨p, rfl, b2, hn2⟩; have HN2 := Lib.hid hn2; have HS2 := Lib.hid (stay_past (past2 b2)); have HZ := Lib.hid (show True from trivial))
        | (go_at_call 24; refine (one_any 2 2 (row_at (by (first | (with_reducible exact at21 _ _ _) | (with_reducible exact at22 _ _ _) | (with_reducible exact at31 _ _ _ _) | (with_reducible exact at32 _ _ _ _) | (with_reducible exact at33 _ _ _ _)))) (row_at (by (first | (with_reducible exact at21 _ _ _) | (with_reducible exact at22 _ _ _) | (with_reducible exact at31 _ _ _ _) | (with_reducible exact at32 _ _ _ _) | (with_reducible exact at33 _ _ _ _))))).mono ?_; rintro e w2 ⟨p, rfl, b2, hn2⟩; have HN2 := Lib.hid hn2; have HS2 := Lib.hid (stay_past (past3 b2)); have HZ := Lib.hid (zero_1 b2); have HJ2 := Lib.hid (le1 w))
        | (go_at_call 24; refine (one_any 2 2 (row_at (by (first | (with_reducible exact at21 _ _ _) | (with_reducible exact at22 _ _ _) | (with_reducible exact at31 _ _ _ _) | (with_reducible exact at32 _ _ _ _) | (with_reducible exact at33 _ _ _ _)))) (row_at (by (first | (with_reducible exact at21 _ _ _) | (with_reducible exact at22 _ _ _) | (with_reducible exact at31 _ _ _ _) | (with_reducible exact at32 _ _ _ _) | (with_reducible exact at33 _ _ _ _))))).mono ?_; rintro e w2 ⟨p, rfl, b2, hn2⟩; have HN2 := Lib.hid hn2; have HS2 := Lib.hid (stay_past (past3 b2)); have HZ := Lib.hid (zero_2 b2); have HJ2 := Lib.hid (le2 w))
        | (go_at_call 24; refine (one_any 2 2 (row_at (by (first | (with_reducible exact at21 _ _ _) | (with_reducible exact at22 _ _ _) | (with_reducible exact at31 _ _ _ _) | (with_reducible exact at32 _ _ _ _) | (with_reducible exact at33 _ _ _ _)))) (row_at (by (first | (with_reducible exact at21 _ _ _) | (with_reducible exact at22 _ _ _) | (with_reducible exact at31 _ _ _ _) | (with_reducible exact at32 _ _ _ _) | (with_reducible exact at33 _ _ _ _))))).mono ?_; rintro e w2 ⟨p, rfl, b2, hn2⟩; have HN2 := Lib.hid hn2; have HS2 := Lib.hid (stay_past (past3 b2)); have HZ := Lib.hid (zero_3 b2); have HJ2 := Lib.hid (le3 w))
        | (go_at_call 25; (with_reducible refine (HN2.out (w2.alloc (.cells #[.int .i64 0, .int .i64 0, .int .u64 0, .int .u64 0, .int .u64 0] 54)) (box_below _ _)).mono ?_); rintro e w3 ⟨rfl, b3⟩; have hz3 := cells_five (at_later (new_heap w2 (.cells #[.int .i64 0, .int .i64 0, .int .u64 0, .int .u64 0, .int .u64 0] 54)) b3); obtain ⟨⟨r0, r1, r2, r3, r4⟩, g0, g1, g2, g3, g4⟩ := hz3; have HS3 := Lib.hid (stay_past (past_mid HS2.out.2 b3)); have HJ3 := Lib.hid (past_lt HS2.out.2))
        | (go_at_call 25; refine (HN2.out _ (Below.refl _ _)).mono ?_; rintro e w3 ⟨rfl, b3⟩; have hz3 := at_later HZ.out b3; have hz4 := cells_five hz3; obtain ⟨⟨r0, r1, r2, r3, r4⟩, g0, g1, g2, g3, g4⟩ := hz4; have HS3 := Lib.hid (stay_past (past_more HS2.out.2 b3)); have HJ3 := HJ2)
        | (go_at_call 25; refine (HN2.out _ (Below.refl _ _)).mono ?_; rintro e w3 ⟨rfl, b3⟩; have HS3 := Lib.hid (stay_past (past_more HS2.out.2 b3)); have HJ3 := Lib.hid (le_past HS2.out.2 b3)))
    all_goals go_wp2_with fail
    all_goals go_meet
    all_goals (case rel => refine ⟨rfl, ?_⟩; first | (with_reducible exact (keepS HS3.out HJ3.out).2) | (with_reducible exact (keepA HS3.out).2))
  case rest =>
    obtain ⟨rfl, hp0⟩ := hcut
    have HS0 := Lib.hid (stay_past hp0)
    clear hp0 c_0 c_1 c_2 c_3
    obtain ⟨⟨c_0, c_1, c_2, c_3⟩, -⟩ := HS0.out
    go_upto_region 4 with fail
    go_cut [5] (fun s5 wx => ∃ p S, s5 = .pointer (some ⟨p, 0, none⟩) ∧ Lifts wx p S 1 1 2 0 2 0 0 2 0 ex0 ∧ (∀ k, S k → w.heap.size < k) ∧ Below (w.alloc (.cells #[.int .i64 1, .int .i64 1, .int .i64 2, .int .u64 0] 24)).heap.size (w.alloc (.cells #[.int .i64 1, .int .i64 1, .int .i64 2, .int .u64 0] 24)) wx)
    case first =>
      go_region_held3 (fun W => (W.cell? ⟨w.heap.size, 0, none⟩ = some (.int .i64 1) ∧ W.cell? ⟨w.heap.size, 1, none⟩ = some (.int .i64 1) ∧ W.cell? ⟨w.heap.size, 2, none⟩ = some (.int .i64 2) ∧ W.cell? ⟨w.heap.size, 3, none⟩ = some (.int .u64 0)) ∧ Below (w.alloc (.cells #[.int .i64 1, .int .i64 1, .int .i64 2, .int .u64 0] 24)).heap.size (w.alloc (.cells #[.int .i64 1, .int .i64 1, .int .i64 2, .int .u64 0] 24)) W)
        ((first | (with_reducible exact keepD HS0.out) | (with_reducible assumption) | (with_reducible exact keepD (keepA HS0.out)) | (with_reducible exact keepD (keepA (keepA HS0.out))) | (with_reducible exact HS2.out)))
        ((go_at_call 24; refine (two_any 2 2 (row_at (by (first | (with_reducible exact atb1 _ _ _) | (with_reducible exact atb2 _ _ _)))) (row_at (by (first | (with_reducible exact atb1 _ _ _) | (with_reducible exact atb2 _ _ _))))).mono ?_; rintro e w2 ⟨p, S, rfl, l2, k2, b2⟩; have HL2 := Lib.hid l2; have HS2 := Lib.hid (stay_past (past_more HS0.out.2 (past_two b2))); have HK2 := Lib.hid (below_two HS0.out.2 k2); clear l2 k2 b2))
      all_goals go_wp2_with fail
      all_goals go_meet
      all_goals (case rel => exact ⟨_, _, rfl, HL2.out, HK2.out, HS2.out.2⟩)
    case rest =>
      obtain ⟨p, S1, rfl, l1, k1, hp1⟩ := hcut
      have HL1 := Lib.hid l1
      have HS1 := Lib.hid k1
      have HB1 := Lib.hid hp1
      clear l1 k1 hp1 c_0 c_1 c_2 c_3
      have HN1 := Lib.hid (Lift_next HL1.out)
      rw [ex_a] at HN1
      generalize hi : nextI 1 2 1 1 = i at HN1
      go_wp2_with fail
      refine HN1.out.mono ?_
      rintro e w3 ⟨rfl, b3⟩
      simp only [Option.getD_some, Option.isSome_some]
      have HB3 := Lib.hid (show Below (w.alloc (.cells #[.int .i64 1, .int .i64 1, .int .i64 2, .int .u64 0] 24)).heap.size (w.alloc (.cells #[.int .i64 1, .int .i64 1, .int .i64 2, .int .u64 0] 24)) (w3.alloc (.cells #[.int .i64 1, .int .i64 i, .int .u64 0, .int .u64 0, .int .u64 2] 54)) from past_more HB1.out (b3.trans ((ba w3 (.cells #[.int .i64 1, .int .i64 i, .int .u64 0, .int .u64 0, .int .u64 2] 54)).mono b3.size)))
      have HL3 := Lib.hid (HL1.out.later (b3.trans ((ba w3 (.cells #[.int .i64 1, .int .i64 i, .int .u64 0, .int .u64 0, .int .u64 2] 54)).mono b3.size)))
      have HZ3 := Lib.hid (And.intro b3.size HL1.out.2.2.2.1)
      clear b3
      go_wp2_with fail
      refine (Lift_tell HL3.out (by decide) (show Word 0 from ⟨by decide, by decide⟩)).mono ?_
      rintro e w4 ⟨rfl, S4, l4, o4, k4⟩
      change Lifts w4 p S4 1 1 2 0 2 0 0 2 1 ex1 at l4
      have HB4 := Lib.hid (show Below (w.alloc (.cells #[.int .i64 1, .int .i64 1, .int .i64 2, .int .u64 0] 24)).heap.size (w.alloc (.cells #[.int .i64 1, .int .i64 1, .int .i64 2, .int .u64 0] 24)) w4 from HB3.out.trans (o4.below HB3.out.size fun k e => by have := HS1.out k e; simp only [World.size_alloc]; omega))
      have HA4 := Lib.hid (five_later o4 (fun e => by have := HZ3.out.2 _ e; have := HZ3.out.1; omega))
      have HS4 := Lib.hid (show ∀ k, S4 k → w.heap.size < k from fun k e => (k4 k e).elim (HS1.out k) fun z => by have := past_lt HB3.out; omega)
      have HZ4 := Lib.hid l4.2.2.2.1
      have HNB := Lib.hid (Lift_next l4)
      have HL4 := Lib.hid l4
      have HK4 := Lib.hid (show ¬ S4 w3.heap.size from fun e => by
        rcases k4 _ e with z | z
        · have := HZ3.out.2 _ z; have := HZ3.out.1; omega
        · simp only [World.size_alloc] at z; omega)
      rw [ex_b] at HNB
      clear l4 o4 k4
      generalize hj : nextI 1 2 0 1 = j at HNB
      go_wp2_with fail
      refine HNB.out.mono ?_
      rintro e w5 ⟨rfl, b5⟩
      simp only [Option.getD_some, Option.isSome_some]
      have HB5 := Lib.hid (show Below (w.alloc (.cells #[.int .i64 1, .int .i64 1, .int .i64 2, .int .u64 0] 24)).heap.size (w.alloc (.cells #[.int .i64 1, .int .i64 1, .int .i64 2, .int .u64 0] 24)) (w5.alloc (.cells #[.int .i64 3, .int .i64 j, .int .u64 0, .int .u64 2, .int .u64 0] 54)) from past_more HB4.out (b5.trans ((ba w5 (.cells #[.int .i64 3, .int .i64 j, .int .u64 0, .int .u64 2, .int .u64 0] 54)).mono b5.size)))
      have HL5 := Lib.hid (HL4.out.later (b5.trans ((ba w5 (.cells #[.int .i64 3, .int .i64 j, .int .u64 0, .int .u64 2, .int .u64 0] 54)).mono b5.size)))
      have HA5 := Lib.hid (b5.trans ((ba w5 (.cells #[.int .i64 3, .int .i64 j, .int .u64 0, .int .u64 2, .int .u64 0] 54)).mono b5.size))
      have HZ5 := Lib.hid b5.size
      clear b5
      go_wp2_with fail
      refine (Lift_tell HL5.out (by decide) (show Word 0 from ⟨by decide, by decide⟩)).mono ?_
      rintro e w6 ⟨rfl, S6, l6, o6, k6⟩
      change Lifts w6 p S6 1 1 2 0 2 0 0 2 2 ex2 at l6
      have HB6 := Lib.hid (show Below (w.alloc (.cells #[.int .i64 1, .int .i64 1, .int .i64 2, .int .u64 0] 24)).heap.size (w.alloc (.cells #[.int .i64 1, .int .i64 1, .int .i64 2, .int .u64 0] 24)) w6 from HB5.out.trans (o6.below HB5.out.size fun k e => by have := HS4.out k e; simp only [World.size_alloc]; omega))
      have HX6 := Lib.hid (five_later o6 (fun e => by have := HZ4.out _ e; have := HZ5.out; omega))
      obtain ⟨x0, x1, x2, x3, x4⟩ := HA4.out
      have HY6 := Lib.hid (show w6.cell? ⟨w3.heap.size, 0, none⟩ = some (.int .i64 1) ∧ w6.cell? ⟨w3.heap.size, 1, none⟩ = some (.int .i64 i) ∧ w6.cell? ⟨w3.heap.size, 2, none⟩ = some (.int .u64 0) ∧ w6.cell? ⟨w3.heap.size, 3, none⟩ = some (.int .u64 0) ∧ w6.cell? ⟨w3.heap.size, 4, none⟩ = some (.int .u64 2) from ⟨o6.cell (cell_later HA5.out x0) HK4.out, o6.cell (cell_later HA5.out x1) HK4.out, o6.cell (cell_later HA5.out x2) HK4.out, o6.cell (cell_later HA5.out x3) HK4.out, o6.cell (cell_later HA5.out x4) HK4.out⟩)
      have HNC := Lib.hid (Lift_next l6)
      rw [ex_c] at HNC
      clear l6 o6 k6 x0 x1 x2 x3 x4
      go_wp2_with fail
      refine HNC.out.mono ?_
      rintro e w7 ⟨rfl, b7⟩
      simp only [Option.getD_none, Option.isSome_none]
      have hb7 := b7.trans ((ba w7 (.cells #[.int .i64 0, .int .i64 0, .int .u64 0, .int .u64 0, .int .u64 0] 54)).mono b7.size)
      have HB7 := Lib.hid (show Below (w.alloc (.cells #[.int .i64 1, .int .i64 1, .int .i64 2, .int .u64 0] 24)).heap.size (w.alloc (.cells #[.int .i64 1, .int .i64 1, .int .i64 2, .int .u64 0] 24)) (w7.alloc (.cells #[.int .i64 0, .int .i64 0, .int .u64 0, .int .u64 0, .int .u64 0] 54)) from past_more HB6.out hb7)
      obtain ⟨x0, x1, x2, x3, x4⟩ := HY6.out
      obtain ⟨y0, y1, y2, y3, y4⟩ := HX6.out
      obtain ⟨⟨c_0, c_1, c_2, c_3⟩, -⟩ := stay_past HB7.out
      have X0 := fun p : After (w7.alloc (.cells #[.int .i64 0, .int .i64 0, .int .u64 0, .int .u64 0, .int .u64 0] 54)) => p.cell (cell_later hb7 x0)
      have X1 := fun p : After (w7.alloc (.cells #[.int .i64 0, .int .i64 0, .int .u64 0, .int .u64 0, .int .u64 0] 54)) => p.cell (cell_later hb7 x1)
      have X2 := fun p : After (w7.alloc (.cells #[.int .i64 0, .int .i64 0, .int .u64 0, .int .u64 0, .int .u64 0] 54)) => p.cell (cell_later hb7 x2)
      have X3 := fun p : After (w7.alloc (.cells #[.int .i64 0, .int .i64 0, .int .u64 0, .int .u64 0, .int .u64 0] 54)) => p.cell (cell_later hb7 x3)
      have X4 := fun p : After (w7.alloc (.cells #[.int .i64 0, .int .i64 0, .int .u64 0, .int .u64 0, .int .u64 0] 54)) => p.cell (cell_later hb7 x4)
      have Y0 := fun p : After (w7.alloc (.cells #[.int .i64 0, .int .i64 0, .int .u64 0, .int .u64 0, .int .u64 0] 54)) => p.cell (cell_later hb7 y0)
      have Y1 := fun p : After (w7.alloc (.cells #[.int .i64 0, .int .i64 0, .int .u64 0, .int .u64 0, .int .u64 0] 54)) => p.cell (cell_later hb7 y1)
      have Y2 := fun p : After (w7.alloc (.cells #[.int .i64 0, .int .i64 0, .int .u64 0, .int .u64 0, .int .u64 0] 54)) => p.cell (cell_later hb7 y2)
      have Y3 := fun p : After (w7.alloc (.cells #[.int .i64 0, .int .i64 0, .int .u64 0, .int .u64 0, .int .u64 0] 54)) => p.cell (cell_later hb7 y3)
      have Y4 := fun p : After (w7.alloc (.cells #[.int .i64 0, .int .i64 0, .int .u64 0, .int .u64 0, .int .u64 0] 54)) => p.cell (cell_later hb7 y4)
      have C_0 := fun p : After (w7.alloc (.cells #[.int .i64 0, .int .i64 0, .int .u64 0, .int .u64 0, .int .u64 0] 54)) => p.cell c_0
      have C_1 := fun p : After (w7.alloc (.cells #[.int .i64 0, .int .i64 0, .int .u64 0, .int .u64 0, .int .u64 0] 54)) => p.cell c_1
      have C_2 := fun p : After (w7.alloc (.cells #[.int .i64 0, .int .i64 0, .int .u64 0, .int .u64 0, .int .u64 0] 54)) => p.cell c_2
      have C_3 := fun p : After (w7.alloc (.cells #[.int .i64 0, .int .i64 0, .int .u64 0, .int .u64 0, .int .u64 0] 54)) => p.cell c_3
      have HP1 := Lib.hid (fun W => Plan.Next_any 1 1 2 0 1 1 W)
      have HP2 := Lib.hid (fun W => Plan.Next_any 1 1 2 0 0 1 W)
      rw [hi] at HP1
      rw [hj] at HP2
      have N1 := fun W => eqlD (1, i, 0, 0, 2) (1, i, 0, 0, 2) W
      have N2 := fun W => eqlD (3, j, 0, 2, 0) (3, j, 0, 2, 0) W
      simp only [decide_true] at N1 N2
      have HEND := Lib.hid (show ∀ W, Below (w7.alloc (.cells #[.int .i64 0, .int .i64 0, .int .u64 0, .int .u64 0, .int .u64 0] 54)).heap.size (w7.alloc (.cells #[.int .i64 0, .int .i64 0, .int .u64 0, .int .u64 0, .int .u64 0] 54)) W → Below w.heap.size w W from fun W hb => HB0.out.trans ((past_more HB7.out hb).mono HB0.out.size))
      clear x0 x1 x2 x3 x4 y0 y1 y2 y3 y4 c_0 c_1 c_2 c_3 hb7 b7 hi hj
      go_wp2
      refine wp_region_after mixed (by kernel_rfl) ?_
      repeat (first | go_big_quiet_step ((first | (with_reducible exact calls_after (HP1.out _)) | (with_reducible exact calls_after (HP2.out _)))) | quiet_step ((first | (with_reducible exact calls_after (HP1.out _)) | (with_reducible exact calls_after (HP2.out _)))))
      refine wpQuiet_nil ?_
      intro _ hw'
      obtain ⟨pq, hw''⟩ := hw'
      subst hw''
      go_wp2
      go_ret
      exact ⟨rfl, HEND.out _ pq.ok⟩
end Go.Proofs.YtchpahkjgpcdjaaGreatDoor.Law21
