/- The functions of package deed (layer 7) but its texts, each held to plain arithmetic: what each deed finds, what it makes of a word, and what stands in the memory behind it; all else in memory stays as it was. -/
import Derived.Test.YtelnkbikgboblaaDoorCellsWalks
import Derived.Test.YtelnkbikgboblaaDoorDeedMath
import Derived.Laws.EntriesVeiled
import Derived.ChangeAlike
import Derived.Deep.RegionHeld3
namespace Go.Proofs.YtelnkbikgboblaaDoor.Deed
set_option maxRecDepth 20000
open Go.ChangeShapes Go.WideShapes Go.RowKit CM DM Lay Ints Cells

theorem below3 (w : World) (o1 o2 o3 : Obj) : Below w.heap.size w (((w.alloc o1).alloc o2).alloc o3) := (((Below.refl _ _).alloc (Nat.le_refl _) _).alloc (by simp) _).alloc (by simp; omega) _
theorem of_one  (i a b y : Int) (w : World) : Calls Tryd.prog 25 #[.agg #[.int .i64 1, .int .i64 i, .int .u64 a, .int .u64 b, .int .u64 y]] w fun e w' =>
    e = .returned (.agg #[.func (.func 38) #[] #[], .func (.func 39) #[] #[], .func (.func 40) #[] #[]]) ∧ Below w.heap.size w w' := by
  go_enter Tryd.func25, Tryd.ntmps25
  go_wp2
  exact bodyPost_ret (v := .agg #[.func (.func 38) #[] #[], .func (.func 39) #[] #[], .func (.func 40) #[] #[]]) (by simp [results, Tryd.results25, go_sem]) rfl ⟨rfl, below3 _ _ _ _⟩
theorem of_two  (i a b y : Int) (w : World) : Calls Tryd.prog 25 #[.agg #[.int .i64 2, .int .i64 i, .int .u64 a, .int .u64 b, .int .u64 y]] w fun e w' =>
    e = .returned (.agg #[.func (.func 42) #[] #[], .func (.func 43) #[] #[], .func (.func 44) #[] #[]]) ∧ Below w.heap.size w w' := by
  go_enter Tryd.func25, Tryd.ntmps25
  go_wp2
  exact bodyPost_ret (v := .agg #[.func (.func 42) #[] #[], .func (.func 43) #[] #[], .func (.func 44) #[] #[]]) (by simp [results, Tryd.results25, go_sem]) rfl ⟨rfl, below3 _ _ _ _⟩
theorem of_three  (i a b y : Int) (w : World) : Calls Tryd.prog 25 #[.agg #[.int .i64 3, .int .i64 i, .int .u64 a, .int .u64 b, .int .u64 y]] w fun e w' =>
    e = .returned (.agg #[.func (.func 45) #[] #[], .func (.func 47) #[] #[], .func (.func 48) #[] #[]]) ∧ Below w.heap.size w w' := by
  go_enter Tryd.func25, Tryd.ntmps25
  go_wp2
  exact bodyPost_ret (v := .agg #[.func (.func 45) #[] #[], .func (.func 47) #[] #[], .func (.func 48) #[] #[]]) (by simp [results, Tryd.results25, go_sem]) rfl ⟨rfl, below3 _ _ _ _⟩
theorem of_four  (i a b y : Int) (w : World) : Calls Tryd.prog 25 #[.agg #[.int .i64 4, .int .i64 i, .int .u64 a, .int .u64 b, .int .u64 y]] w fun e w' =>
    e = .returned (.agg #[.func (.func 49) #[] #[], .func (.func 51) #[] #[], .func (.func 52) #[] #[]]) ∧ Below w.heap.size w w' := by
  go_enter Tryd.func25, Tryd.ntmps25
  go_wp2
  exact bodyPost_ret (v := .agg #[.func (.func 49) #[] #[], .func (.func 51) #[] #[], .func (.func 52) #[] #[]]) (by simp [results, Tryd.results25, go_sem]) rfl ⟨rfl, below3 _ _ _ _⟩
theorem of_zero  (i a b y : Int) (w : World) : Calls Tryd.prog 25 #[.agg #[.int .i64 0, .int .i64 i, .int .u64 a, .int .u64 b, .int .u64 y]] w fun e w' =>
    e = .returned (.agg #[.func (.func 35) #[] #[], .func (.func 36) #[] #[], .func (.func 37) #[] #[]]) ∧ Below w.heap.size w w' := by
  go_enter Tryd.func25, Tryd.ntmps25
  go_wp2
  exact bodyPost_ret (v := .agg #[.func (.func 35) #[] #[], .func (.func 36) #[] #[], .func (.func 37) #[] #[]]) (by simp [results, Tryd.results25, go_sem]) rfl ⟨rfl, below3 _ _ _ _⟩
theorem of_low (kd : Int) (hk : kd < 0) (i a b y : Int) (w : World) : Calls Tryd.prog 25 #[.agg #[.int .i64 kd, .int .i64 i, .int .u64 a, .int .u64 b, .int .u64 y]] w fun e w' =>
    e = .returned (.agg #[.func (.func 35) #[] #[], .func (.func 36) #[] #[], .func (.func 37) #[] #[]]) ∧ Below w.heap.size w w' := by
  go_enter Tryd.func25, Tryd.ntmps25
  go_wp2
  exact bodyPost_ret (v := .agg #[.func (.func 35) #[] #[], .func (.func 36) #[] #[], .func (.func 37) #[] #[]]) (by simp [results, Tryd.results25, go_sem]) rfl ⟨rfl, below3 _ _ _ _⟩
theorem of_high (kd : Int) (hk : 5 ≤ kd) (i a b y : Int) (w : World) : Calls Tryd.prog 25 #[.agg #[.int .i64 kd, .int .i64 i, .int .u64 a, .int .u64 b, .int .u64 y]] w fun e w' =>
    e = .returned (.agg #[.func (.func 35) #[] #[], .func (.func 36) #[] #[], .func (.func 37) #[] #[]]) ∧ Below w.heap.size w w' := by
  go_enter Tryd.func25, Tryd.ntmps25
  go_wp2
  exact bodyPost_ret (v := .agg #[.func (.func 35) #[] #[], .func (.func 36) #[] #[], .func (.func 37) #[] #[]]) (by simp [results, Tryd.results25, go_sem]) rfl ⟨rfl, below3 _ _ _ _⟩

theorem box5 (w : World) (v0 v1 v2 v3 v4 : Value) (t : TypeId) : (w.alloc (.cells #[v0, v1, v2, v3, v4] t)).cell? ⟨w.heap.size, 0, none⟩ = some v0 ∧ (w.alloc (.cells #[v0, v1, v2, v3, v4] t)).cell? ⟨w.heap.size, 1, none⟩ = some v1 ∧
    (w.alloc (.cells #[v0, v1, v2, v3, v4] t)).cell? ⟨w.heap.size, 2, none⟩ = some v2 ∧ (w.alloc (.cells #[v0, v1, v2, v3, v4] t)).cell? ⟨w.heap.size, 3, none⟩ = some v3 ∧ (w.alloc (.cells #[v0, v1, v2, v3, v4] t)).cell? ⟨w.heap.size, 4, none⟩ = some v4 := by
  have h := box_cell (Below.refl (w.heap.size + 1) (w.alloc (.cells #[v0, v1, v2, v3, v4] t)))
  exact ⟨h 0, h 1, h 2, h 3, h 4⟩

end Go.Proofs.YtelnkbikgboblaaDoor.Deed
