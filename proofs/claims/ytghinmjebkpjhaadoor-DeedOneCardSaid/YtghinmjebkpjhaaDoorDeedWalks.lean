/- The functions of package deed (layer 7) but its texts, each held to plain arithmetic: what each deed finds, what it makes of a word, and what stands in the memory behind it; all else in memory stays as it was. -/
import Derived.Test.YtghinmjebkpjhaaDoorCellsWalks
import Derived.Test.YtghinmjebkpjhaaDoorDeedMath
import Derived.Laws.EntriesVeiled
import Derived.ChangeAlike
import Derived.Deep.RegionHeld3
namespace Go.Proofs.YtghinmjebkpjhaaDoor.Deed
open Go.ChangeShapes Go.WideShapes Go.RowKit CM DM Lay Ints Cells

theorem below3 (w : World) (o1 o2 o3 : Obj) : Below w.heap.size w (((w.alloc o1).alloc o2).alloc o3) := (((Below.refl _ _).alloc (Nat.le_refl _) _).alloc (by simp) _).alloc (by simp; omega) _
theorem of_one  (i a b y : Int) (w : World) : Calls Tryd.prog 19 #[.agg #[.int .i64 1, .int .i64 i, .int .u64 a, .int .u64 b, .int .u64 y]] w fun e w' =>
    e = .returned (.agg #[.func (.func 25) #[] #[], .func (.func 27) #[] #[], .func (.func 28) #[] #[]]) ∧ Below w.heap.size w w' := by
  go_enter Tryd.func19, Tryd.ntmps19
  go_wp2
  exact bodyPost_ret (v := .agg #[.func (.func 25) #[] #[], .func (.func 27) #[] #[], .func (.func 28) #[] #[]]) (by simp [results, Tryd.results19, go_sem]) rfl ⟨rfl, below3 _ _ _ _⟩
theorem of_two  (i a b y : Int) (w : World) : Calls Tryd.prog 19 #[.agg #[.int .i64 2, .int .i64 i, .int .u64 a, .int .u64 b, .int .u64 y]] w fun e w' =>
    e = .returned (.agg #[.func (.func 30) #[] #[], .func (.func 32) #[] #[], .func (.func 33) #[] #[]]) ∧ Below w.heap.size w w' := by
  go_enter Tryd.func19, Tryd.ntmps19
  go_wp2
  exact bodyPost_ret (v := .agg #[.func (.func 30) #[] #[], .func (.func 32) #[] #[], .func (.func 33) #[] #[]]) (by simp [results, Tryd.results19, go_sem]) rfl ⟨rfl, below3 _ _ _ _⟩
theorem of_three  (i a b y : Int) (w : World) : Calls Tryd.prog 19 #[.agg #[.int .i64 3, .int .i64 i, .int .u64 a, .int .u64 b, .int .u64 y]] w fun e w' =>
    e = .returned (.agg #[.func (.func 34) #[] #[], .func (.func 36) #[] #[], .func (.func 37) #[] #[]]) ∧ Below w.heap.size w w' := by
  go_enter Tryd.func19, Tryd.ntmps19
  go_wp2
  exact bodyPost_ret (v := .agg #[.func (.func 34) #[] #[], .func (.func 36) #[] #[], .func (.func 37) #[] #[]]) (by simp [results, Tryd.results19, go_sem]) rfl ⟨rfl, below3 _ _ _ _⟩
theorem of_four  (i a b y : Int) (w : World) : Calls Tryd.prog 19 #[.agg #[.int .i64 4, .int .i64 i, .int .u64 a, .int .u64 b, .int .u64 y]] w fun e w' =>
    e = .returned (.agg #[.func (.func 38) #[] #[], .func (.func 40) #[] #[], .func (.func 41) #[] #[]]) ∧ Below w.heap.size w w' := by
  go_enter Tryd.func19, Tryd.ntmps19
  go_wp2
  exact bodyPost_ret (v := .agg #[.func (.func 38) #[] #[], .func (.func 40) #[] #[], .func (.func 41) #[] #[]]) (by simp [results, Tryd.results19, go_sem]) rfl ⟨rfl, below3 _ _ _ _⟩
theorem of_zero  (i a b y : Int) (w : World) : Calls Tryd.prog 19 #[.agg #[.int .i64 0, .int .i64 i, .int .u64 a, .int .u64 b, .int .u64 y]] w fun e w' =>
    e = .returned (.agg #[.func (.func 22) #[] #[], .func (.func 23) #[] #[], .func (.func 24) #[] #[]]) ∧ Below w.heap.size w w' := by
  go_enter Tryd.func19, Tryd.ntmps19
  go_wp2
  exact bodyPost_ret (v := .agg #[.func (.func 22) #[] #[], .func (.func 23) #[] #[], .func (.func 24) #[] #[]]) (by simp [results, Tryd.results19, go_sem]) rfl ⟨rfl, below3 _ _ _ _⟩
theorem of_low (kd : Int) (hk : kd < 0) (i a b y : Int) (w : World) : Calls Tryd.prog 19 #[.agg #[.int .i64 kd, .int .i64 i, .int .u64 a, .int .u64 b, .int .u64 y]] w fun e w' =>
    e = .returned (.agg #[.func (.func 22) #[] #[], .func (.func 23) #[] #[], .func (.func 24) #[] #[]]) ∧ Below w.heap.size w w' := by
  go_enter Tryd.func19, Tryd.ntmps19
  go_wp2
  exact bodyPost_ret (v := .agg #[.func (.func 22) #[] #[], .func (.func 23) #[] #[], .func (.func 24) #[] #[]]) (by simp [results, Tryd.results19, go_sem]) rfl ⟨rfl, below3 _ _ _ _⟩
theorem of_high (kd : Int) (hk : 5 ≤ kd) (i a b y : Int) (w : World) : Calls Tryd.prog 19 #[.agg #[.int .i64 kd, .int .i64 i, .int .u64 a, .int .u64 b, .int .u64 y]] w fun e w' =>
    e = .returned (.agg #[.func (.func 22) #[] #[], .func (.func 23) #[] #[], .func (.func 24) #[] #[]]) ∧ Below w.heap.size w w' := by
  go_enter Tryd.func19, Tryd.ntmps19
  go_wp2
  exact bodyPost_ret (v := .agg #[.func (.func 22) #[] #[], .func (.func 23) #[] #[], .func (.func 24) #[] #[]]) (by simp [results, Tryd.results19, go_sem]) rfl ⟨rfl, below3 _ _ _ _⟩

/-! What each kind's deed makes of a word. -/
theorem a_zero (kd i a b y v : Int) (w : World) : Calls Tryd.prog 23 #[.int .u64 v, .agg #[.int .i64 kd, .int .i64 i, .int .u64 a, .int .u64 b, .int .u64 y]] w fun e w' => e = .returned (.int .u64 (v)) ∧ Below w.heap.size w w' := by
  go_enter Tryd.func23, Tryd.ntmps23
  go_wp2
  go_ret
  exact ⟨rfl, (Below.refl _ _).alloc (Nat.le_refl _) _⟩
theorem a_one (kd i a b y v : Int) (w : World) : Calls Tryd.prog 27 #[.int .u64 v, .agg #[.int .i64 kd, .int .i64 i, .int .u64 a, .int .u64 b, .int .u64 y]] w fun e w' => e = .returned (.int .u64 (v)) ∧ Below w.heap.size w w' := by
  go_enter Tryd.func27, Tryd.ntmps27
  go_wp2
  go_ret
  exact ⟨rfl, (Below.refl _ _).alloc (Nat.le_refl _) _⟩
theorem a_two (kd i a b y v : Int) (w : World) : Calls Tryd.prog 32 #[.int .u64 v, .agg #[.int .i64 kd, .int .i64 i, .int .u64 a, .int .u64 b, .int .u64 y]] w fun e w' => e = .returned (.int .u64 (a)) ∧ Below w.heap.size w w' := by
  go_enter Tryd.func32, Tryd.ntmps32
  go_wp2
  go_ret
  exact ⟨rfl, (Below.refl _ _).alloc (Nat.le_refl _) _⟩
theorem a_four (kd i a b y v : Int) (w : World) : Calls Tryd.prog 40 #[.int .u64 v, .agg #[.int .i64 kd, .int .i64 i, .int .u64 a, .int .u64 b, .int .u64 y]] w fun e w' => e = .returned (.int .u64 ((v + a) % 18446744073709551616)) ∧ Below w.heap.size w w' := by
  go_enter Tryd.func40, Tryd.ntmps40
  go_wp2
  go_ret
  exact ⟨rfl, (Below.refl _ _).alloc (Nat.le_refl _) _⟩
theorem a_three (kd i a b y v u : Int) (hu : (if v = a then b else v) = u) (w : World) : Calls Tryd.prog 36 #[.int .u64 v, .agg #[.int .i64 kd, .int .i64 i, .int .u64 a, .int .u64 b, .int .u64 y]] w fun e w' => e = .returned (.int .u64 u) ∧ Below w.heap.size w w' := by
  by_cases h : v = a
  · rw [if_pos h] at hu
    subst h
    subst hu
    go_enter Tryd.func36, Tryd.ntmps36
    go_wp2
    go_ret
    exact ⟨rfl, (Below.refl _ _).alloc (Nat.le_refl _) _⟩
  · rw [if_neg h] at hu
    subst hu
    have h2 : (v == a) = false := by simpa using h
    go_enter Tryd.func36, Tryd.ntmps36
    go_wp2
    go_ret
    exact ⟨rfl, (Below.refl _ _).alloc (Nat.le_refl _) _⟩

theorem box5 (w : World) (v0 v1 v2 v3 v4 : Value) (t : TypeId) : (w.alloc (.cells #[v0, v1, v2, v3, v4] t)).cell? ⟨w.heap.size, 0, none⟩ = some v0 ∧ (w.alloc (.cells #[v0, v1, v2, v3, v4] t)).cell? ⟨w.heap.size, 1, none⟩ = some v1 ∧
    (w.alloc (.cells #[v0, v1, v2, v3, v4] t)).cell? ⟨w.heap.size, 2, none⟩ = some v2 ∧ (w.alloc (.cells #[v0, v1, v2, v3, v4] t)).cell? ⟨w.heap.size, 3, none⟩ = some v3 ∧ (w.alloc (.cells #[v0, v1, v2, v3, v4] t)).cell? ⟨w.heap.size, 4, none⟩ = some v4 := by
  have h := box_cell (Below.refl (w.heap.size + 1) (w.alloc (.cells #[v0, v1, v2, v3, v4] t)))
  exact ⟨h 0, h 1, h 2, h 3, h 4⟩

theorem After_one (i a b y v : Int)  (w : World) : Calls Tryd.prog 12 #[.int .u64 v, .agg #[.int .i64 1, .int .i64 i, .int .u64 a, .int .u64 b, .int .u64 y]] w fun e w' => e = .returned (.int .u64 (v)) ∧ Below w.heap.size w w' := by
  obtain ⟨c0, c1, c2, c3, c4⟩ := box5 w (.int .i64 1) (.int .i64 i) (.int .u64 a) (.int .u64 b) (.int .u64 y) 33
  have C0 := fun p : After (w.alloc (.cells #[.int .i64 1, .int .i64 i, .int .u64 a, .int .u64 b, .int .u64 y] 33)) => p.cell c0
  have C1 := fun p : After (w.alloc (.cells #[.int .i64 1, .int .i64 i, .int .u64 a, .int .u64 b, .int .u64 y] 33)) => p.cell c1
  have C2 := fun p : After (w.alloc (.cells #[.int .i64 1, .int .i64 i, .int .u64 a, .int .u64 b, .int .u64 y] 33)) => p.cell c2
  have C3 := fun p : After (w.alloc (.cells #[.int .i64 1, .int .i64 i, .int .u64 a, .int .u64 b, .int .u64 y] 33)) => p.cell c3
  have C4 := fun p : After (w.alloc (.cells #[.int .i64 1, .int .i64 i, .int .u64 a, .int .u64 b, .int .u64 y] 33)) => p.cell c4
  clear c0 c1 c2 c3 c4
  try have HU := Lib.hid hu
  try clear hu
  have HZ := Lib.hid (a_one 1 i a b y v)
  have hfd : ∀ W : World, (Instr.field 49 (.agg #[.func (.func 25) #[] #[], .func (.func 27) #[] #[], .func (.func 28) #[] #[]]) 1).run Tryd.prog W = .ok (.func (.func 27) #[] #[]) W := fun _ => by kernel_rfl
  have HO := Lib.hid (of_one  i a b y)
  try clear hk
  go_enter Tryd.func12, Tryd.ntmps12
  go_wp2
  refine wp_region_after mixed (by kernel_rfl) ?_
  repeat (first | go_big_quiet_step ((first | (with_reducible exact calls_after (HO.out _)) | exact calls_after (HZ.out _) | exact calls_after (HZ.out _ HU.out _))) | quiet_step ((first | (with_reducible exact calls_after (HO.out _)) | exact calls_after (HZ.out _) | exact calls_after (HZ.out _ HU.out _))))
  refine wpQuiet_nil ?_
  intro _ hw'
  obtain ⟨pq, hw''⟩ := hw'
  subst hw''
  go_wp2
  go_ret
  exact ⟨rfl, below_past (pq.ok.mono (by simp))⟩
theorem After_two (i a b y v : Int)  (w : World) : Calls Tryd.prog 12 #[.int .u64 v, .agg #[.int .i64 2, .int .i64 i, .int .u64 a, .int .u64 b, .int .u64 y]] w fun e w' => e = .returned (.int .u64 (a)) ∧ Below w.heap.size w w' := by
  obtain ⟨c0, c1, c2, c3, c4⟩ := box5 w (.int .i64 2) (.int .i64 i) (.int .u64 a) (.int .u64 b) (.int .u64 y) 33
  have C0 := fun p : After (w.alloc (.cells #[.int .i64 2, .int .i64 i, .int .u64 a, .int .u64 b, .int .u64 y] 33)) => p.cell c0
  have C1 := fun p : After (w.alloc (.cells #[.int .i64 2, .int .i64 i, .int .u64 a, .int .u64 b, .int .u64 y] 33)) => p.cell c1
  have C2 := fun p : After (w.alloc (.cells #[.int .i64 2, .int .i64 i, .int .u64 a, .int .u64 b, .int .u64 y] 33)) => p.cell c2
  have C3 := fun p : After (w.alloc (.cells #[.int .i64 2, .int .i64 i, .int .u64 a, .int .u64 b, .int .u64 y] 33)) => p.cell c3
  have C4 := fun p : After (w.alloc (.cells #[.int .i64 2, .int .i64 i, .int .u64 a, .int .u64 b, .int .u64 y] 33)) => p.cell c4
  clear c0 c1 c2 c3 c4
  try have HU := Lib.hid hu
  try clear hu
  have HZ := Lib.hid (a_two 2 i a b y v)
  have hfd : ∀ W : World, (Instr.field 49 (.agg #[.func (.func 30) #[] #[], .func (.func 32) #[] #[], .func (.func 33) #[] #[]]) 1).run Tryd.prog W = .ok (.func (.func 32) #[] #[]) W := fun _ => by kernel_rfl
  have HO := Lib.hid (of_two  i a b y)
  try clear hk
  go_enter Tryd.func12, Tryd.ntmps12
  go_wp2
  refine wp_region_after mixed (by kernel_rfl) ?_
  repeat (first | go_big_quiet_step ((first | (with_reducible exact calls_after (HO.out _)) | exact calls_after (HZ.out _) | exact calls_after (HZ.out _ HU.out _))) | quiet_step ((first | (with_reducible exact calls_after (HO.out _)) | exact calls_after (HZ.out _) | exact calls_after (HZ.out _ HU.out _))))
  refine wpQuiet_nil ?_
  intro _ hw'
  obtain ⟨pq, hw''⟩ := hw'
  subst hw''
  go_wp2
  go_ret
  exact ⟨rfl, below_past (pq.ok.mono (by simp))⟩
theorem After_three (i a b y v : Int) (u : Int) (hu : (if v = a then b else v) = u) (w : World) : Calls Tryd.prog 12 #[.int .u64 v, .agg #[.int .i64 3, .int .i64 i, .int .u64 a, .int .u64 b, .int .u64 y]] w fun e w' => e = .returned (.int .u64 (u)) ∧ Below w.heap.size w w' := by
  obtain ⟨c0, c1, c2, c3, c4⟩ := box5 w (.int .i64 3) (.int .i64 i) (.int .u64 a) (.int .u64 b) (.int .u64 y) 33
  have C0 := fun p : After (w.alloc (.cells #[.int .i64 3, .int .i64 i, .int .u64 a, .int .u64 b, .int .u64 y] 33)) => p.cell c0
  have C1 := fun p : After (w.alloc (.cells #[.int .i64 3, .int .i64 i, .int .u64 a, .int .u64 b, .int .u64 y] 33)) => p.cell c1
  have C2 := fun p : After (w.alloc (.cells #[.int .i64 3, .int .i64 i, .int .u64 a, .int .u64 b, .int .u64 y] 33)) => p.cell c2
  have C3 := fun p : After (w.alloc (.cells #[.int .i64 3, .int .i64 i, .int .u64 a, .int .u64 b, .int .u64 y] 33)) => p.cell c3
  have C4 := fun p : After (w.alloc (.cells #[.int .i64 3, .int .i64 i, .int .u64 a, .int .u64 b, .int .u64 y] 33)) => p.cell c4
  clear c0 c1 c2 c3 c4
  try have HU := Lib.hid hu
  try clear hu
  have HZ := Lib.hid (a_three 3 i a b y v)
  have hfd : ∀ W : World, (Instr.field 49 (.agg #[.func (.func 34) #[] #[], .func (.func 36) #[] #[], .func (.func 37) #[] #[]]) 1).run Tryd.prog W = .ok (.func (.func 36) #[] #[]) W := fun _ => by kernel_rfl
  have HO := Lib.hid (of_three  i a b y)
  try clear hk
  go_enter Tryd.func12, Tryd.ntmps12
  go_wp2
  refine wp_region_after mixed (by kernel_rfl) ?_
  repeat (first | go_big_quiet_step ((first | (with_reducible exact calls_after (HO.out _)) | exact calls_after (HZ.out _) | exact calls_after (HZ.out _ HU.out _))) | quiet_step ((first | (with_reducible exact calls_after (HO.out _)) | exact calls_after (HZ.out _) | exact calls_after (HZ.out _ HU.out _))))
  refine wpQuiet_nil ?_
  intro _ hw'
  obtain ⟨pq, hw''⟩ := hw'
  subst hw''
  go_wp2
  go_ret
  exact ⟨rfl, below_past (pq.ok.mono (by simp))⟩
theorem After_four (i a b y v : Int)  (w : World) : Calls Tryd.prog 12 #[.int .u64 v, .agg #[.int .i64 4, .int .i64 i, .int .u64 a, .int .u64 b, .int .u64 y]] w fun e w' => e = .returned (.int .u64 ((v + a) % 18446744073709551616)) ∧ Below w.heap.size w w' := by
  obtain ⟨c0, c1, c2, c3, c4⟩ := box5 w (.int .i64 4) (.int .i64 i) (.int .u64 a) (.int .u64 b) (.int .u64 y) 33
  have C0 := fun p : After (w.alloc (.cells #[.int .i64 4, .int .i64 i, .int .u64 a, .int .u64 b, .int .u64 y] 33)) => p.cell c0
  have C1 := fun p : After (w.alloc (.cells #[.int .i64 4, .int .i64 i, .int .u64 a, .int .u64 b, .int .u64 y] 33)) => p.cell c1
  have C2 := fun p : After (w.alloc (.cells #[.int .i64 4, .int .i64 i, .int .u64 a, .int .u64 b, .int .u64 y] 33)) => p.cell c2
  have C3 := fun p : After (w.alloc (.cells #[.int .i64 4, .int .i64 i, .int .u64 a, .int .u64 b, .int .u64 y] 33)) => p.cell c3
  have C4 := fun p : After (w.alloc (.cells #[.int .i64 4, .int .i64 i, .int .u64 a, .int .u64 b, .int .u64 y] 33)) => p.cell c4
  clear c0 c1 c2 c3 c4
  try have HU := Lib.hid hu
  try clear hu
  have HZ := Lib.hid (a_four 4 i a b y v)
  have hfd : ∀ W : World, (Instr.field 49 (.agg #[.func (.func 38) #[] #[], .func (.func 40) #[] #[], .func (.func 41) #[] #[]]) 1).run Tryd.prog W = .ok (.func (.func 40) #[] #[]) W := fun _ => by kernel_rfl
  have HO := Lib.hid (of_four  i a b y)
  try clear hk
  go_enter Tryd.func12, Tryd.ntmps12
  go_wp2
  refine wp_region_after mixed (by kernel_rfl) ?_
  repeat (first | go_big_quiet_step ((first | (with_reducible exact calls_after (HO.out _)) | exact calls_after (HZ.out _) | exact calls_after (HZ.out _ HU.out _))) | quiet_step ((first | (with_reducible exact calls_after (HO.out _)) | exact calls_after (HZ.out _) | exact calls_after (HZ.out _ HU.out _))))
  refine wpQuiet_nil ?_
  intro _ hw'
  obtain ⟨pq, hw''⟩ := hw'
  subst hw''
  go_wp2
  go_ret
  exact ⟨rfl, below_past (pq.ok.mono (by simp))⟩
theorem After_zero (i a b y v : Int)  (w : World) : Calls Tryd.prog 12 #[.int .u64 v, .agg #[.int .i64 0, .int .i64 i, .int .u64 a, .int .u64 b, .int .u64 y]] w fun e w' => e = .returned (.int .u64 (v)) ∧ Below w.heap.size w w' := by
  obtain ⟨c0, c1, c2, c3, c4⟩ := box5 w (.int .i64 0) (.int .i64 i) (.int .u64 a) (.int .u64 b) (.int .u64 y) 33
  have C0 := fun p : After (w.alloc (.cells #[.int .i64 0, .int .i64 i, .int .u64 a, .int .u64 b, .int .u64 y] 33)) => p.cell c0
  have C1 := fun p : After (w.alloc (.cells #[.int .i64 0, .int .i64 i, .int .u64 a, .int .u64 b, .int .u64 y] 33)) => p.cell c1
  have C2 := fun p : After (w.alloc (.cells #[.int .i64 0, .int .i64 i, .int .u64 a, .int .u64 b, .int .u64 y] 33)) => p.cell c2
  have C3 := fun p : After (w.alloc (.cells #[.int .i64 0, .int .i64 i, .int .u64 a, .int .u64 b, .int .u64 y] 33)) => p.cell c3
  have C4 := fun p : After (w.alloc (.cells #[.int .i64 0, .int .i64 i, .int .u64 a, .int .u64 b, .int .u64 y] 33)) => p.cell c4
  clear c0 c1 c2 c3 c4
  try have HU := Lib.hid hu
  try clear hu
  have HZ := Lib.hid (a_zero 0 i a b y v)
  have hfd : ∀ W : World, (Instr.field 49 (.agg #[.func (.func 22) #[] #[], .func (.func 23) #[] #[], .func (.func 24) #[] #[]]) 1).run Tryd.prog W = .ok (.func (.func 23) #[] #[]) W := fun _ => by kernel_rfl
  have HO := Lib.hid (of_zero  i a b y)
  try clear hk
  go_enter Tryd.func12, Tryd.ntmps12
  go_wp2
  refine wp_region_after mixed (by kernel_rfl) ?_
  repeat (first | go_big_quiet_step ((first | (with_reducible exact calls_after (HO.out _)) | exact calls_after (HZ.out _) | exact calls_after (HZ.out _ HU.out _))) | quiet_step ((first | (with_reducible exact calls_after (HO.out _)) | exact calls_after (HZ.out _) | exact calls_after (HZ.out _ HU.out _))))
  refine wpQuiet_nil ?_
  intro _ hw'
  obtain ⟨pq, hw''⟩ := hw'
  subst hw''
  go_wp2
  go_ret
  exact ⟨rfl, below_past (pq.ok.mono (by simp))⟩
theorem After_low (i a b y v : Int) (kd : Int) (hk : kd < 0) (w : World) : Calls Tryd.prog 12 #[.int .u64 v, .agg #[.int .i64 kd, .int .i64 i, .int .u64 a, .int .u64 b, .int .u64 y]] w fun e w' => e = .returned (.int .u64 (v)) ∧ Below w.heap.size w w' := by
  obtain ⟨c0, c1, c2, c3, c4⟩ := box5 w (.int .i64 kd) (.int .i64 i) (.int .u64 a) (.int .u64 b) (.int .u64 y) 33
  have C0 := fun p : After (w.alloc (.cells #[.int .i64 kd, .int .i64 i, .int .u64 a, .int .u64 b, .int .u64 y] 33)) => p.cell c0
  have C1 := fun p : After (w.alloc (.cells #[.int .i64 kd, .int .i64 i, .int .u64 a, .int .u64 b, .int .u64 y] 33)) => p.cell c1
  have C2 := fun p : After (w.alloc (.cells #[.int .i64 kd, .int .i64 i, .int .u64 a, .int .u64 b, .int .u64 y] 33)) => p.cell c2
  have C3 := fun p : After (w.alloc (.cells #[.int .i64 kd, .int .i64 i, .int .u64 a, .int .u64 b, .int .u64 y] 33)) => p.cell c3
  have C4 := fun p : After (w.alloc (.cells #[.int .i64 kd, .int .i64 i, .int .u64 a, .int .u64 b, .int .u64 y] 33)) => p.cell c4
  clear c0 c1 c2 c3 c4
  try have HU := Lib.hid hu
  try clear hu
  have HZ := Lib.hid (a_zero kd i a b y v)
  have hfd : ∀ W : World, (Instr.field 49 (.agg #[.func (.func 22) #[] #[], .func (.func 23) #[] #[], .func (.func 24) #[] #[]]) 1).run Tryd.prog W = .ok (.func (.func 23) #[] #[]) W := fun _ => by kernel_rfl
  have HO := Lib.hid (of_low kd hk i a b y)
  try clear hk
  go_enter Tryd.func12, Tryd.ntmps12
  go_wp2
  refine wp_region_after mixed (by kernel_rfl) ?_
  repeat (first | go_big_quiet_step ((first | (with_reducible exact calls_after (HO.out _)) | exact calls_after (HZ.out _) | exact calls_after (HZ.out _ HU.out _))) | quiet_step ((first | (with_reducible exact calls_after (HO.out _)) | exact calls_after (HZ.out _) | exact calls_after (HZ.out _ HU.out _))))
  refine wpQuiet_nil ?_
  intro _ hw'
  obtain ⟨pq, hw''⟩ := hw'
  subst hw''
  go_wp2
  go_ret
  exact ⟨rfl, below_past (pq.ok.mono (by simp))⟩
theorem After_high (i a b y v : Int) (kd : Int) (hk : 5 ≤ kd) (w : World) : Calls Tryd.prog 12 #[.int .u64 v, .agg #[.int .i64 kd, .int .i64 i, .int .u64 a, .int .u64 b, .int .u64 y]] w fun e w' => e = .returned (.int .u64 (v)) ∧ Below w.heap.size w w' := by
  obtain ⟨c0, c1, c2, c3, c4⟩ := box5 w (.int .i64 kd) (.int .i64 i) (.int .u64 a) (.int .u64 b) (.int .u64 y) 33
  have C0 := fun p : After (w.alloc (.cells #[.int .i64 kd, .int .i64 i, .int .u64 a, .int .u64 b, .int .u64 y] 33)) => p.cell c0
  have C1 := fun p : After (w.alloc (.cells #[.int .i64 kd, .int .i64 i, .int .u64 a, .int .u64 b, .int .u64 y] 33)) => p.cell c1
  have C2 := fun p : After (w.alloc (.cells #[.int .i64 kd, .int .i64 i, .int .u64 a, .int .u64 b, .int .u64 y] 33)) => p.cell c2
  have C3 := fun p : After (w.alloc (.cells #[.int .i64 kd, .int .i64 i, .int .u64 a, .int .u64 b, .int .u64 y] 33)) => p.cell c3
  have C4 := fun p : After (w.alloc (.cells #[.int .i64 kd, .int .i64 i, .int .u64 a, .int .u64 b, .int .u64 y] 33)) => p.cell c4
  clear c0 c1 c2 c3 c4
  try have HU := Lib.hid hu
  try clear hu
  have HZ := Lib.hid (a_zero kd i a b y v)
  have hfd : ∀ W : World, (Instr.field 49 (.agg #[.func (.func 22) #[] #[], .func (.func 23) #[] #[], .func (.func 24) #[] #[]]) 1).run Tryd.prog W = .ok (.func (.func 23) #[] #[]) W := fun _ => by kernel_rfl
  have HO := Lib.hid (of_high kd hk i a b y)
  try clear hk
  go_enter Tryd.func12, Tryd.ntmps12
  go_wp2
  refine wp_region_after mixed (by kernel_rfl) ?_
  repeat (first | go_big_quiet_step ((first | (with_reducible exact calls_after (HO.out _)) | exact calls_after (HZ.out _) | exact calls_after (HZ.out _ HU.out _))) | quiet_step ((first | (with_reducible exact calls_after (HO.out _)) | exact calls_after (HZ.out _) | exact calls_after (HZ.out _ HU.out _))))
  refine wpQuiet_nil ?_
  intro _ hw'
  obtain ⟨pq, hw''⟩ := hw'
  subst hw''
  go_wp2
  go_ret
  exact ⟨rfl, below_past (pq.ok.mono (by simp))⟩
end Go.Proofs.YtghinmjebkpjhaaDoor.Deed
