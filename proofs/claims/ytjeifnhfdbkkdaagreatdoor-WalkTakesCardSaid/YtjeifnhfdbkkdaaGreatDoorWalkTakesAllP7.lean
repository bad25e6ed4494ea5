import Derived.Test.YtjeifnhfdbkkdaaGreatDoorWalkTakesAllP5
import Derived.Test.YtjeifnhfdbkkdaaGreatDoorWalkTakesAllP6
/- The functions of package refer (layer 2), each held to plain arithmetic: what each call returns, at every word, generation and index that the types can hold; no call turns the world. -/
namespace Go.Proofs.YtjeifnhfdbkkdaaGreatDoor.Refer
open Go.ChangeShapes Go.WideShapes Go.ChangeAt Go.RowKit FM RM
open Go.Proofs.YtjeifnhfdbkkdaaGreatDoor.Field (ret_u64 ret_bool)

theorem ret_i64 {a b : Int} (h : a = b) : Ending.returned (.int .i64 a) = .returned (.int .i64 b) := by rw [h]

theorem Gen_any (v : Int) (h0 : 0 ≤ v) (hv : v < 18446744073709551616) (w : World) : Calls Tryz.prog 49 #[.int .u64 v] w fun e w' => e = .returned (.int .u64 (v / 4294967296)) ∧ w = w' := by
  go_enter Tryz.func49, Tryz.ntmps49
  go_wp2_with fail
  refine (Field.High_any v h0 hv _).mono ?_
  rintro e w' ⟨rfl, rfl⟩
  go_wp2
  go_ret
  exact ⟨rfl, rfl⟩
theorem Index_any (v : Int) (h0 : 0 ≤ v) (hv : v < 18446744073709551616) (w : World) : Calls Tryz.prog 43 #[.int .u64 v] w fun e w' => e = .returned (.int .i64 (v % 4294967296 / 2)) ∧ w = w' := by
  have HG := Lib.hid (get_index v h0)
  have b0 : 0 ≤ v % 4294967296 / 2 := by omega
  have b1 : v % 4294967296 / 2 ≤ 2147483647 := by omega
  go_enter Tryz.func43, Tryz.ntmps43
  go_wp2_with fail
  refine (Field.Get_any v 1 31 h0 hv (by decide) _).mono ?_
  rintro e w' ⟨rfl, rfl⟩
  rw [HG.out]
  go_wp2
  go_ret
  exact ⟨rfl, rfl⟩
theorem Plain_any (v : Int) (h0 : 0 ≤ v) (hv : v < 18446744073709551616) (w : World) : Calls Tryz.prog 81 #[.int .u64 v] w fun e w' => e = .returned (.int .u64 (v - v % 2)) ∧ w = w' := by
  have HG := Lib.hid (put_zero v h0)
  go_enter Tryz.func81, Tryz.ntmps81
  go_wp2_with fail
  refine (Field.Put_any v 0 1 0 h0 hv (by decide) (by decide) _).mono ?_
  rintro e w' ⟨rfl, rfl⟩
  rw [HG.out]
  go_wp2
  go_ret
  exact ⟨rfl, rfl⟩
theorem None_any (v : Int) (h0 : 0 ≤ v) (hv : v < 18446744073709551616) (w : World) : Calls Tryz.prog 80 #[.int .u64 v] w fun e w' => e = .returned (.bool (decide (v % 4294967296 / 2 = 0))) ∧ w = w' := by
  go_enter Tryz.func80, Tryz.ntmps80
  go_wp2_with fail
  refine (Index_any v h0 hv _).mono ?_
  rintro e w' ⟨rfl, rfl⟩
  go_wp2
  go_ret
  exact ⟨ret_bool (by first | rfl | simp), rfl⟩

end Go.Proofs.YtjeifnhfdbkkdaaGreatDoor.Refer
