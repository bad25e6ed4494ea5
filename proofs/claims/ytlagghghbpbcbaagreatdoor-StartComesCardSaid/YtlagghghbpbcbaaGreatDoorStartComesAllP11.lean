import Derived.Test.YtlagghghbpbcbaaGreatDoorStartComesAllP10
import Derived.Test.YtlagghghbpbcbaaGreatDoorStartComesAllP1
import Derived.Laws.EntriesVeiled
import Derived.ChangeAlike
import Derived.Deep.RegionHeld3
/- The functions of package deed (layer 7) but its texts, each held to plain arithmetic: what each deed finds, what it makes of a word, and what stands in the memory behind it; all else in memory stays as it was. -/
namespace Go.Proofs.YtlagghghbpbcbaaGreatDoor.Deed
set_option maxRecDepth 20000
open Go.ChangeShapes Go.WideShapes Go.RowKit CM DM Lay Ints Cells

theorem below3 (w : World) (o1 o2 o3 : Obj) : Below w.heap.size w (((w.alloc o1).alloc o2).alloc o3) := (((Below.refl _ _).alloc (Nat.le_refl _) _).alloc (by simp) _).alloc (by simp; omega) _
theorem of_one  (i a b y : Int) (w : World) : Calls Tryz.prog 63 #[.agg #[.int .i64 1, .int .i64 i, .int .u64 a, .int .u64 b, .int .u64 y]] w fun e w' =>
    e = .returned (.agg #[.func (.func 85) #[] #[], .func (.func 86) #[] #[], .func (.func 87) #[] #[]]) ∧ Below w.heap.size w w' := by
  go_enter Tryz.func63, Tryz.ntmps63
  go_wp2
  exact bodyPost_ret (v := .agg #[.func (.func 85) #[] #[], .func (.func 86) #[] #[], .func (.func 87) #[] #[]]) (by simp [results, Tryz.results63, go_sem]) rfl ⟨rfl, below3 _ _ _ _⟩
theorem of_two  (i a b y : Int) (w : World) : Calls Tryz.prog 63 #[.agg #[.int .i64 2, .int .i64 i, .int .u64 a, .int .u64 b, .int .u64 y]] w fun e w' =>
    e = .returned (.agg #[.func (.func 89) #[] #[], .func (.func 90) #[] #[], .func (.func 91) #[] #[]]) ∧ Below w.heap.size w w' := by
  go_enter Tryz.func63, Tryz.ntmps63
  go_wp2
  exact bodyPost_ret (v := .agg #[.func (.func 89) #[] #[], .func (.func 90) #[] #[], .func (.func 91) #[] #[]]) (by simp [results, Tryz.results63, go_sem]) rfl ⟨rfl, below3 _ _ _ _⟩
theorem of_three  (i a b y : Int) (w : World) : Calls Tryz.prog 63 #[.agg #[.int .i64 3, .int .i64 i, .int .u64 a, .int .u64 b, .int .u64 y]] w fun e w' =>
    e = .returned (.agg #[.func (.func 92) #[] #[], .func (.func 94) #[] #[], .func (.func 95) #[] #[]]) ∧ Below w.heap.size w w' := by
  go_enter Tryz.func63, Tryz.ntmps63
  go_wp2
  exact bodyPost_ret (v := .agg #[.func (.func 92) #[] #[], .func (.func 94) #[] #[], .func (.func 95) #[] #[]]) (by simp [results, Tryz.results63, go_sem]) rfl ⟨rfl, below3 _ _ _ _⟩
theorem of_four  (i a b y : Int) (w : World) : Calls Tryz.prog 63 #[.agg #[.int .i64 4, .int .i64 i, .int .u64 a, .int .u64 b, .int .u64 y]] w fun e w' =>
    e = .returned (.agg #[.func (.func 96) #[] #[], .func (.func 98) #[] #[], .func (.func 99) #[] #[]]) ∧ Below w.heap.size w w' := by
  go_enter Tryz.func63, Tryz.ntmps63
  go_wp2
  exact bodyPost_ret (v := .agg #[.func (.func 96) #[] #[], .func (.func 98) #[] #[], .func (.func 99) #[] #[]]) (by simp [results, Tryz.results63, go_sem]) rfl ⟨rfl, below3 _ _ _ _⟩
theorem of_zero  (i a b y : Int) (w : World) : Calls Tryz.prog 63 #[.agg #[.int .i64 0, .int .i64 i, .int .u64 a, .int .u64 b, .int .u64 y]] w fun e w' =>
    e = .returned (.agg #[.func (.func 82) #[] #[], .func (.func 83) #[] #[], .func (.func 84) #[] #[]]) ∧ Below w.heap.size w w' := by
  go_enter Tryz.func63, Tryz.ntmps63
  go_wp2
  exact bodyPost_ret (v := .agg #[.func (.func 82) #[] #[], .func (.func 83) #[] #[], .func (.func 84) #[] #[]]) (by simp [results, Tryz.results63, go_sem]) rfl ⟨rfl, below3 _ _ _ _⟩
theorem of_low (kd : Int) (hk : kd < 0) (i a b y : Int) (w : World) : Calls Tryz.prog 63 #[.agg #[.int .i64 kd, .int .i64 i, .int .u64 a, .int .u64 b, .int .u64 y]] w fun e w' =>
    e = .returned (.agg #[.func (.func 82) #[] #[], .func (.func 83) #[] #[], .func (.func 84) #[] #[]]) ∧ Below w.heap.size w w' := by
  go_enter Tryz.func63, Tryz.ntmps63
  go_wp2
  exact bodyPost_ret (v := .agg #[.func (.func 82) #[] #[], .func (.func 83) #[] #[], .func (.func 84) #[] #[]]) (by simp [results, Tryz.results63, go_sem]) rfl ⟨rfl, below3 _ _ _ _⟩
theorem of_high (kd : Int) (hk : 5 ≤ kd) (i a b y : Int) (w : World) : Calls Tryz.prog 63 #[.agg #[.int .i64 kd, .int .i64 i, .int .u64 a, .int .u64 b, .int .u64 y]] w fun e w' =>
    e = .returned (.agg #[.func (.func 82) #[] #[], .func (.func 83) #[] #[], .func (.func 84) #[] #[]]) ∧ Below w.heap.size w w' := by
  go_enter Tryz.func63, Tryz.ntmps63
  go_wp2
  exact bodyPost_ret (v := .agg #[.func (.func 82) #[] #[], .func (.func 83) #[] #[], .func (.func 84) #[] #[]]) (by simp [results, Tryz.results63, go_sem]) rfl ⟨rfl, below3 _ _ _ _⟩

theorem box5 (w : World) (v0 v1 v2 v3 v4 : Value) (t : TypeId) : (w.alloc (.cells #[v0, v1, v2, v3, v4] t)).cell? ⟨w.heap.size, 0, none⟩ = some v0 ∧ (w.alloc (.cells #[v0, v1, v2, v3, v4] t)).cell? ⟨w.heap.size, 1, none⟩ = some v1 ∧
    (w.alloc (.cells #[v0, v1, v2, v3, v4] t)).cell? ⟨w.heap.size, 2, none⟩ = some v2 ∧ (w.alloc (.cells #[v0, v1, v2, v3, v4] t)).cell? ⟨w.heap.size, 3, none⟩ = some v3 ∧ (w.alloc (.cells #[v0, v1, v2, v3, v4] t)).cell? ⟨w.heap.size, 4, none⟩ = some v4 := by
  have h := box_cell (Below.refl (w.heap.size + 1) (w.alloc (.cells #[v0, v1, v2, v3, v4] t)))
  exact ⟨h 0, h 1, h 2, h 3, h 4⟩

end Go.Proofs.YtlagghghbpbcbaaGreatDoor.Deed

/- Deeds done to a memory (package deed): what each finds, and which words there are behind it; all else in memory stays as it was. -/
namespace Go.Proofs.YtlagghghbpbcbaaGreatDoor.DeedDo
set_option maxRecDepth 20000
open Go.ChangeShapes Go.WideShapes Go.RowKit CM DM Lay Ints Cells Deed

theorem box_grown (w : World) (o : Obj) (r : Option Nat) {w' : World} (h : (w.alloc o).grownBy w' r) : w.grownBy w' r := grown_trans (World.grownBy_alloc w o r) h
theorem box_mem {p h n : Nat} {l : List Int} {w : World} (hM : Mem w p h n l) (o : Obj) : Mem (w.alloc o) p h n l := hM.later ((Below.refl _ _).alloc (Nat.le_refl _) _)

/-! What each kind's deed does. -/
theorem d_two {p h n : Nat} {l : List Int} {w : World} (hM : Mem w p h n l) (kd i a b y : Int) : Calls Tryz.prog 89 #[.pointer (some ⟨p, 0, none⟩), .agg #[.int .i64 kd, .int .i64 i, .int .u64 a, .int .u64 b, .int .u64 y]] w (Does w p h n (getI l i) (setI l i a)) := by
  have HM := Lib.hid (box_mem hM (.cells #[.int .i64 kd, .int .i64 i, .int .u64 a, .int .u64 b, .int .u64 y] 63))
  have HS := Lib.hid (Store_any HM.out i a)
  generalize getI l i = f at HS ⊢
  generalize setI l i a = l' at HS ⊢
  clear hM
  go_enter Tryz.func89, Tryz.ntmps89
  go_wp2_with fail
  refine (HS.out).mono ?_
  rintro e w' ⟨rfl, hg, hm⟩
  go_wp2
  go_ret
  exact ⟨rfl, box_grown _ _ _ hg, hm⟩
theorem d_three {p h n : Nat} {l : List Int} {w : World} (hM : Mem w p h n l) (kd i a b y : Int) : Calls Tryz.prog 92 #[.pointer (some ⟨p, 0, none⟩), .agg #[.int .i64 kd, .int .i64 i, .int .u64 a, .int .u64 b, .int .u64 y]] w (Does w p h n (getI l i) (swapI l i a b)) := by
  have HM := Lib.hid (box_mem hM (.cells #[.int .i64 kd, .int .i64 i, .int .u64 a, .int .u64 b, .int .u64 y] 63))
  have HS := Lib.hid (Swap_any HM.out i a b)
  generalize getI l i = f at HS ⊢
  generalize swapI l i a b = l' at HS ⊢
  clear hM
  go_enter Tryz.func92, Tryz.ntmps92
  go_wp2_with fail
  refine (HS.out).mono ?_
  rintro e w' ⟨rfl, hg, hm⟩
  go_wp2
  go_ret
  exact ⟨rfl, box_grown _ _ _ hg, hm⟩
theorem d_four {p h n : Nat} {l : List Int} {w : World} (hM : Mem w p h n l) (kd i a b y : Int) : Calls Tryz.prog 96 #[.pointer (some ⟨p, 0, none⟩), .agg #[.int .i64 kd, .int .i64 i, .int .u64 a, .int .u64 b, .int .u64 y]] w (Does w p h n (getI l i) (addI l i a)) := by
  have HM := Lib.hid (box_mem hM (.cells #[.int .i64 kd, .int .i64 i, .int .u64 a, .int .u64 b, .int .u64 y] 63))
  have HS := Lib.hid (Add_any HM.out i a)
  generalize getI l i = f at HS ⊢
  generalize addI l i a = l' at HS ⊢
  clear hM
  go_enter Tryz.func96, Tryz.ntmps96
  go_wp2_with fail
  refine (HS.out).mono ?_
  rintro e w' ⟨rfl, hg, hm⟩
  go_wp2
  go_ret
  exact ⟨rfl, box_grown _ _ _ hg, hm⟩
theorem d_one {p h n : Nat} {l : List Int} {w : World} (hM : Mem w p h n l) (kd i a b y : Int) : Calls Tryz.prog 85 #[.pointer (some ⟨p, 0, none⟩), .agg #[.int .i64 kd, .int .i64 i, .int .u64 a, .int .u64 b, .int .u64 y]] w (Does w p h n (getI l i) l) := by
  have HM := Lib.hid (box_mem hM (.cells #[.int .i64 kd, .int .i64 i, .int .u64 a, .int .u64 b, .int .u64 y] 63))
  have HS := Lib.hid (Load_any HM.out i)
  generalize getI l i = f at HS ⊢
  clear hM
  go_enter Tryz.func85, Tryz.ntmps85
  go_wp2_with fail
  refine (HS.out).mono ?_
  rintro e w' ⟨rfl, rfl⟩
  go_wp2
  go_ret
  exact ⟨rfl, box_grown _ _ _ (grown_refl _ _), HM.out⟩
theorem d_zero {p h n : Nat} {l : List Int} {w : World} (hM : Mem w p h n l) (kd i a b y : Int) : Calls Tryz.prog 82 #[.pointer (some ⟨p, 0, none⟩), .agg #[.int .i64 kd, .int .i64 i, .int .u64 a, .int .u64 b, .int .u64 y]] w (Does w p h n 0 l) := by
  have HM := Lib.hid (box_mem hM (.cells #[.int .i64 kd, .int .i64 i, .int .u64 a, .int .u64 b, .int .u64 y] 63))
  clear hM
  go_enter Tryz.func82, Tryz.ntmps82
  go_wp2
  go_ret
  exact ⟨rfl, box_grown _ _ _ (grown_refl _ _), HM.out⟩

theorem start5 (w : World) (v0 v1 v2 v3 v4 : Value) (t : TypeId) (n : Nat) : ((w.alloc (.cells #[v0, v1, v2, v3, v4] t)).drewN n).cell? ⟨w.heap.size, 0, none⟩ = some v0 ∧ ((w.alloc (.cells #[v0, v1, v2, v3, v4] t)).drewN n).cell? ⟨w.heap.size, 1, none⟩ = some v1 ∧
    ((w.alloc (.cells #[v0, v1, v2, v3, v4] t)).drewN n).cell? ⟨w.heap.size, 2, none⟩ = some v2 ∧ ((w.alloc (.cells #[v0, v1, v2, v3, v4] t)).drewN n).cell? ⟨w.heap.size, 3, none⟩ = some v3 ∧ ((w.alloc (.cells #[v0, v1, v2, v3, v4] t)).drewN n).cell? ⟨w.heap.size, 4, none⟩ = some v4 := by
  simp only [World.cell?_drewN]
  exact box5 w v0 v1 v2 v3 v4 t
theorem keep5 {w1 w2 : World} {b : Nat} {r : Option Nat} {v0 v1 v2 v3 v4 : Value} (hS : w1.cell? ⟨b, 0, none⟩ = some v0 ∧ w1.cell? ⟨b, 1, none⟩ = some v1 ∧ w1.cell? ⟨b, 2, none⟩ = some v2 ∧ w1.cell? ⟨b, 3, none⟩ = some v3 ∧ w1.cell? ⟨b, 4, none⟩ = some v4)
    (hg : w1.grownBy w2 r) (hr : some b ≠ r) : w2.cell? ⟨b, 0, none⟩ = some v0 ∧ w2.cell? ⟨b, 1, none⟩ = some v1 ∧ w2.cell? ⟨b, 2, none⟩ = some v2 ∧ w2.cell? ⟨b, 3, none⟩ = some v3 ∧ w2.cell? ⟨b, 4, none⟩ = some v4 :=
  ⟨hg.cell hS.1 hr, hg.cell hS.2.1 hr, hg.cell hS.2.2.1 hr, hg.cell hS.2.2.2.1 hr, hg.cell hS.2.2.2.2 hr⟩

theorem Do_one {p h n : Nat} {l : List Int} {w : World} (hM : Mem w p h n l) (i a b y : Int)  : Calls Tryz.prog 27 #[.pointer (some ⟨p, 0, none⟩), .agg #[.int .i64 1, .int .i64 i, .int .u64 a, .int .u64 b, .int .u64 y]] w (Does w p h n (getI l i) (l)) := by
  have HM := Lib.hid (box_mem hM (.cells #[.int .i64 1, .int .i64 i, .int .u64 a, .int .u64 b, .int .u64 y] 63))
  have HZ := Lib.hid fun w2 (hM : Mem w2 p h n l) => d_one hM 1 i a b y
  have HO := Lib.hid (of_one  i a b y)
  have NE := Lib.hid (show some w.heap.size ≠ some h by have := hM.lt.2; simp; omega)
  have hfd : ∀ W : World, (Instr.field 111 (.agg #[.func (.func 85) #[] #[], .func (.func 86) #[] #[], .func (.func 87) #[] #[]]) 0).run Tryz.prog W = .ok (.func (.func 85) #[] #[]) W := fun _ => by kernel_rfl
  try generalize getI l i = f at HZ ⊢
  skip
  try clear hk
  clear hM
  go_enter Tryz.func27, Tryz.ntmps27
  go_wp2
  go_region_held3 (fun w' => w'.cell? ⟨w.heap.size, 0, none⟩ = some (.int .i64 1) ∧ w'.cell? ⟨w.heap.size, 1, none⟩ = some (.int .i64 i) ∧ w'.cell? ⟨w.heap.size, 2, none⟩ = some (.int .u64 a) ∧ w'.cell? ⟨w.heap.size, 3, none⟩ = some (.int .u64 b) ∧ w'.cell? ⟨w.heap.size, 4, none⟩ = some (.int .u64 y))
    ((first | exact start5 w _ _ _ _ _ _ _ | exact keep5 (by assumption) (by assumption) NE.out))
    (first
      | (go_at_call 63; refine (HO.out _).mono ?_; rintro e w1 ⟨rfl, hb⟩; have hg := grown_below (some h) hb)
      | (refine (HZ.out _ ((HM.out.later (Below.refl _ _).drew).later hb)).mono ?_; rintro e w2 ⟨rfl, hg, hm⟩))
  go_wp2
  go_ret
  exact ⟨rfl, grown_trans (grown_below (some h) ((((Below.refl _ _).alloc (Nat.le_refl _) _).drew).trans (hb.mono (by simp)))) hg, hm⟩
theorem Do_two {p h n : Nat} {l : List Int} {w : World} (hM : Mem w p h n l) (i a b y : Int)  : Calls Tryz.prog 27 #[.pointer (some ⟨p, 0, none⟩), .agg #[.int .i64 2, .int .i64 i, .int .u64 a, .int .u64 b, .int .u64 y]] w (Does w p h n (getI l i) (setI l i a)) := by
  have HM := Lib.hid (box_mem hM (.cells #[.int .i64 2, .int .i64 i, .int .u64 a, .int .u64 b, .int .u64 y] 63))
  have HZ := Lib.hid fun w2 (hM : Mem w2 p h n l) => d_two hM 2 i a b y
  have HO := Lib.hid (of_two  i a b y)
  have NE := Lib.hid (show some w.heap.size ≠ some h by have := hM.lt.2; simp; omega)
  have hfd : ∀ W : World, (Instr.field 111 (.agg #[.func (.func 89) #[] #[], .func (.func 90) #[] #[], .func (.func 91) #[] #[]]) 0).run Tryz.prog W = .ok (.func (.func 89) #[] #[]) W := fun _ => by kernel_rfl
  try generalize getI l i = f at HZ ⊢
  generalize setI l i a = l' at HZ ⊢
  try clear hk
  clear hM
  go_enter Tryz.func27, Tryz.ntmps27
  go_wp2
  go_region_held3 (fun w' => w'.cell? ⟨w.heap.size, 0, none⟩ = some (.int .i64 2) ∧ w'.cell? ⟨w.heap.size, 1, none⟩ = some (.int .i64 i) ∧ w'.cell? ⟨w.heap.size, 2, none⟩ = some (.int .u64 a) ∧ w'.cell? ⟨w.heap.size, 3, none⟩ = some (.int .u64 b) ∧ w'.cell? ⟨w.heap.size, 4, none⟩ = some (.int .u64 y))
    ((first | exact start5 w _ _ _ _ _ _ _ | exact keep5 (by assumption) (by assumption) NE.out))
    (first
      | (go_at_call 63; refine (HO.out _).mono ?_; rintro e w1 ⟨rfl, hb⟩; have hg := grown_below (some h) hb)
      | (refine (HZ.out _ ((HM.out.later (Below.refl _ _).drew).later hb)).mono ?_; rintro e w2 ⟨rfl, hg, hm⟩))
  go_wp2
  go_ret
  exact ⟨rfl, grown_trans (grown_below (some h) ((((Below.refl _ _).alloc (Nat.le_refl _) _).drew).trans (hb.mono (by simp)))) hg, hm⟩
theorem Do_three {p h n : Nat} {l : List Int} {w : World} (hM : Mem w p h n l) (i a b y : Int)  : Calls Tryz.prog 27 #[.pointer (some ⟨p, 0, none⟩), .agg #[.int .i64 3, .int .i64 i, .int .u64 a, .int .u64 b, .int .u64 y]] w (Does w p h n (getI l i) (swapI l i a b)) := by
  have HM := Lib.hid (box_mem hM (.cells #[.int .i64 3, .int .i64 i, .int .u64 a, .int .u64 b, .int .u64 y] 63))
  have HZ := Lib.hid fun w2 (hM : Mem w2 p h n l) => d_three hM 3 i a b y
  have HO := Lib.hid (of_three  i a b y)
  have NE := Lib.hid (show some w.heap.size ≠ some h by have := hM.lt.2; simp; omega)
  have hfd : ∀ W : World, (Instr.field 111 (.agg #[.func (.func 92) #[] #[], .func (.func 94) #[] #[], .func (.func 95) #[] #[]]) 0).run Tryz.prog W = .ok (.func (.func 92) #[] #[]) W := fun _ => by kernel_rfl
  try generalize getI l i = f at HZ ⊢
  generalize swapI l i a b = l' at HZ ⊢
  try clear hk
  clear hM
  go_enter Tryz.func27, Tryz.ntmps27
  go_wp2
  go_region_held3 (fun w' => w'.cell? ⟨w.heap.size, 0, none⟩ = some (.int .i64 3) ∧ w'.cell? ⟨w.heap.size, 1, none⟩ = some (.int .i64 i) ∧ w'.cell? ⟨w.heap.size, 2, none⟩ = some (.int .u64 a) ∧ w'.cell? ⟨w.heap.size, 3, none⟩ = some (.int .u64 b) ∧ w'.cell? ⟨w.heap.size, 4, none⟩ = some (.int .u64 y))
    ((first | exact start5 w _ _ _ _ _ _ _ | exact keep5 (by assumption) (by assumption) NE.out))
    (first
      | (go_at_call 63; refine (HO.out _).mono ?_; rintro e w1 ⟨rfl, hb⟩; have hg := grown_below (some h) hb)
      | (refine (HZ.out _ ((HM.out.later (Below.refl _ _).drew).later hb)).mono ?_; rintro e w2 ⟨rfl, hg, hm⟩))
  go_wp2
  go_ret
  exact ⟨rfl, grown_trans (grown_below (some h) ((((Below.refl _ _).alloc (Nat.le_refl _) _).drew).trans (hb.mono (by simp)))) hg, hm⟩
theorem Do_four {p h n : Nat} {l : List Int} {w : World} (hM : Mem w p h n l) (i a b y : Int)  : Calls Tryz.prog 27 #[.pointer (some ⟨p, 0, none⟩), .agg #[.int .i64 4, .int .i64 i, .int .u64 a, .int .u64 b, .int .u64 y]] w (Does w p h n (getI l i) (addI l i a)) := by
  have HM := Lib.hid (box_mem hM (.cells #[.int .i64 4, .int .i64 i, .int .u64 a, .int .u64 b, .int .u64 y] 63))
  have HZ := Lib.hid fun w2 (hM : Mem w2 p h n l) => d_four hM 4 i a b y
  have HO := Lib.hid (of_four  i a b y)
  have NE := Lib.hid (show some w.heap.size ≠ some h by have := hM.lt.2; simp; omega)
  have hfd : ∀ W : World, (Instr.field 111 (.agg #[.func (.func 96) #[] #[], .func (.func 98) #[] #[], .func (.func 99) #[] #[]]) 0).run Tryz.prog W = .ok (.func (.func 96) #[] #[]) W := fun _ => by kernel_rfl
  try generalize getI l i = f at HZ ⊢
  generalize addI l i a = l' at HZ ⊢
  try clear hk
  clear hM
  go_enter Tryz.func27, Tryz.ntmps27
  go_wp2
  go_region_held3 (fun w' => w'.cell? ⟨w.heap.size, 0, none⟩ = some (.int .i64 4) ∧ w'.cell? ⟨w.heap.size, 1, none⟩ = some (.int .i64 i) ∧ w'.cell? ⟨w.heap.size, 2, none⟩ = some (.int .u64 a) ∧ w'.cell? ⟨w.heap.size, 3, none⟩ = some (.int .u64 b) ∧ w'.cell? ⟨w.heap.size, 4, none⟩ = some (.int .u64 y))
    ((first | exact start5 w _ _ _ _ _ _ _ | exact keep5 (by assumption) (by assumption) NE.out))
    (first
      | (go_at_call 63; refine (HO.out _).mono ?_; rintro e w1 ⟨rfl, hb⟩; have hg := grown_below (some h) hb)
      | (refine (HZ.out _ ((HM.out.later (Below.refl _ _).drew).later hb)).mono ?_; rintro e w2 ⟨rfl, hg, hm⟩))
  go_wp2
  go_ret
  exact ⟨rfl, grown_trans (grown_below (some h) ((((Below.refl _ _).alloc (Nat.le_refl _) _).drew).trans (hb.mono (by simp)))) hg, hm⟩
theorem Do_zero {p h n : Nat} {l : List Int} {w : World} (hM : Mem w p h n l) (i a b y : Int)  : Calls Tryz.prog 27 #[.pointer (some ⟨p, 0, none⟩), .agg #[.int .i64 0, .int .i64 i, .int .u64 a, .int .u64 b, .int .u64 y]] w (Does w p h n (0) (l)) := by
  have HM := Lib.hid (box_mem hM (.cells #[.int .i64 0, .int .i64 i, .int .u64 a, .int .u64 b, .int .u64 y] 63))
  have HZ := Lib.hid fun w2 (hM : Mem w2 p h n l) => d_zero hM 0 i a b y
  have HO := Lib.hid (of_zero  i a b y)
  have NE := Lib.hid (show some w.heap.size ≠ some h by have := hM.lt.2; simp; omega)
  have hfd : ∀ W : World, (Instr.field 111 (.agg #[.func (.func 82) #[] #[], .func (.func 83) #[] #[], .func (.func 84) #[] #[]]) 0).run Tryz.prog W = .ok (.func (.func 82) #[] #[]) W := fun _ => by kernel_rfl
  try generalize getI l i = f at HZ ⊢
  skip
  try clear hk
  clear hM
  go_enter Tryz.func27, Tryz.ntmps27
  go_wp2
  go_region_held3 (fun w' => w'.cell? ⟨w.heap.size, 0, none⟩ = some (.int .i64 0) ∧ w'.cell? ⟨w.heap.size, 1, none⟩ = some (.int .i64 i) ∧ w'.cell? ⟨w.heap.size, 2, none⟩ = some (.int .u64 a) ∧ w'.cell? ⟨w.heap.size, 3, none⟩ = some (.int .u64 b) ∧ w'.cell? ⟨w.heap.size, 4, none⟩ = some (.int .u64 y))
    ((first | exact start5 w _ _ _ _ _ _ _ | exact keep5 (by assumption) (by assumption) NE.out))
    (first
      | (go_at_call 63; refine (HO.out _).mono ?_; rintro e w1 ⟨rfl, hb⟩; have hg := grown_below (some h) hb)
      | (refine (HZ.out _ ((HM.out.later (Below.refl _ _).drew).later hb)).mono ?_; rintro e w2 ⟨rfl, hg, hm⟩))
  go_wp2
  go_ret
  exact ⟨rfl, grown_trans (grown_below (some h) ((((Below.refl _ _).alloc (Nat.le_refl _) _).drew).trans (hb.mono (by simp)))) hg, hm⟩
theorem Do_low {p h n : Nat} {l : List Int} {w : World} (hM : Mem w p h n l) (i a b y : Int) (kd : Int) (hk : kd < 0) : Calls Tryz.prog 27 #[.pointer (some ⟨p, 0, none⟩), .agg #[.int .i64 kd, .int .i64 i, .int .u64 a, .int .u64 b, .int .u64 y]] w (Does w p h n (0) (l)) := by
  have HM := Lib.hid (box_mem hM (.cells #[.int .i64 kd, .int .i64 i, .int .u64 a, .int .u64 b, .int .u64 y] 63))
  have HZ := Lib.hid fun w2 (hM : Mem w2 p h n l) => d_zero hM kd i a b y
  have HO := Lib.hid (of_low kd hk i a b y)
  have NE := Lib.hid (show some w.heap.size ≠ some h by have := hM.lt.2; simp; omega)
  have hfd : ∀ W : World, (Instr.field 111 (.agg #[.func (.func 82) #[] #[], .func (.func 83) #[] #[], .func (.func 84) #[] #[]]) 0).run Tryz.prog W = .ok (.func (.func 82) #[] #[]) W := fun _ => by kernel_rfl
  try generalize getI l i = f at HZ ⊢
  skip
  try clear hk
  clear hM
  go_enter Tryz.func27, Tryz.ntmps27
  go_wp2
  go_region_held3 (fun w' => w'.cell? ⟨w.heap.size, 0, none⟩ = some (.int .i64 kd) ∧ w'.cell? ⟨w.heap.size, 1, none⟩ = some (.int .i64 i) ∧ w'.cell? ⟨w.heap.size, 2, none⟩ = some (.int .u64 a) ∧ w'.cell? ⟨w.heap.size, 3, none⟩ = some (.int .u64 b) ∧ w'.cell? ⟨w.heap.size, 4, none⟩ = some (.int .u64 y))
    ((first | exact start5 w _ _ _ _ _ _ _ | exact keep5 (by assumption) (by assumption) NE.out))
    (first
      | (go_at_call 63; refine (HO.out _).mono ?_; rintro e w1 ⟨rfl, hb⟩; have hg := grown_below (some h) hb)
      | (refine (HZ.out _ ((HM.out.later (Below.refl _ _).drew).later hb)).mono ?_; rintro e w2 ⟨rfl, hg, hm⟩))
  go_wp2
  go_ret
  exact ⟨rfl, grown_trans (grown_below (some h) ((((Below.refl _ _).alloc (Nat.le_refl _) _).drew).trans (hb.mono (by simp)))) hg, hm⟩
theorem Do_high {p h n : Nat} {l : List Int} {w : World} (hM : Mem w p h n l) (i a b y : Int) (kd : Int) (hk : 5 ≤ kd) : Calls Tryz.prog 27 #[.pointer (some ⟨p, 0, none⟩), .agg #[.int .i64 kd, .int .i64 i, .int .u64 a, .int .u64 b, .int .u64 y]] w (Does w p h n (0) (l)) := by
  have HM := Lib.hid (box_mem hM (.cells #[.int .i64 kd, .int .i64 i, .int .u64 a, .int .u64 b, .int .u64 y] 63))
  have HZ := Lib.hid fun w2 (hM : Mem w2 p h n l) => d_zero hM kd i a b y
  have HO := Lib.hid (of_high kd hk i a b y)
  have NE := Lib.hid (show some w.heap.size ≠ some h by have := hM.lt.2; simp; omega)
  have hfd : ∀ W : World, (Instr.field 111 (.agg #[.func (.func 82) #[] #[], .func (.func 83) #[] #[], .func (.func 84) #[] #[]]) 0).run Tryz.prog W = .ok (.func (.func 82) #[] #[]) W := fun _ => by kernel_rfl
  try generalize getI l i = f at HZ ⊢
  skip
  try clear hk
  clear hM
  go_enter Tryz.func27, Tryz.ntmps27
  go_wp2
  go_region_held3 (fun w' => w'.cell? ⟨w.heap.size, 0, none⟩ = some (.int .i64 kd) ∧ w'.cell? ⟨w.heap.size, 1, none⟩ = some (.int .i64 i) ∧ w'.cell? ⟨w.heap.size, 2, none⟩ = some (.int .u64 a) ∧ w'.cell? ⟨w.heap.size, 3, none⟩ = some (.int .u64 b) ∧ w'.cell? ⟨w.heap.size, 4, none⟩ = some (.int .u64 y))
    ((first | exact start5 w _ _ _ _ _ _ _ | exact keep5 (by assumption) (by assumption) NE.out))
    (first
      | (go_at_call 63; refine (HO.out _).mono ?_; rintro e w1 ⟨rfl, hb⟩; have hg := grown_below (some h) hb)
      | (refine (HZ.out _ ((HM.out.later (Below.refl _ _).drew).later hb)).mono ?_; rintro e w2 ⟨rfl, hg, hm⟩))
  go_wp2
  go_ret
  exact ⟨rfl, grown_trans (grown_below (some h) ((((Below.refl _ _).alloc (Nat.le_refl _) _).drew).trans (hb.mono (by simp)))) hg, hm⟩

theorem Do_any {p h n : Nat} {l : List Int} {w : World} (hM : Mem w p h n l) (x : D) : Calls Tryz.prog 27 #[.pointer (some ⟨p, 0, none⟩), .agg #[.int .i64 x.1, .int .i64 x.2.1, .int .u64 x.2.2.1, .int .u64 x.2.2.2.1, .int .u64 x.2.2.2.2]] w (Does w p h n (foundD l x) (nextD l x)) := by
  obtain ⟨kd, i, a, b, y⟩ := x
  simp only
  by_cases hk : 1 ≤ kd ∧ kd ≤ 4
  · rw [foundD_yes (x := (kd, i, a, b, y)) hk]
    rcases (show kd = 1 ∨ kd = 2 ∨ kd = 3 ∨ kd = 4 by omega) with rfl | rfl | rfl | rfl
    · rw [nextD_1]; exact Do_one hM i a b y
    · rw [nextD_2]; exact Do_two hM i a b y
    · rw [nextD_3]; exact Do_three hM i a b y
    · rw [nextD_4]; exact Do_four hM i a b y
  · rw [foundD_no (x := (kd, i, a, b, y)) hk, nextD_no (x := (kd, i, a, b, y)) hk]
    rcases (show kd < 0 ∨ kd = 0 ∨ 5 ≤ kd by omega) with h0 | rfl | h5
    · exact Do_low hM i a b y kd h0
    · exact Do_zero hM i a b y
    · exact Do_high hM i a b y kd h5

end Go.Proofs.YtlagghghbpbcbaaGreatDoor.DeedDo
