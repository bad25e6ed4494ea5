/- The functions of package refer (layer 2), each held to plain arithmetic: what each call returns, at every word, generation and index that the types can hold; no call turns the world. -/
import Derived.Test.YtjeifnhfdbkkdaaFieldWalks
import Derived.Test.YtjeifnhfdbkkdaaReferMath
namespace Go.Proofs.Ytjeifnhfdbkkdaa.Refer
open Go.ChangeShapes Go.WideShapes Go.ChangeAt Go.RowKit FM RM
open Go.Proofs.Ytjeifnhfdbkkdaa.Field (ret_u64 ret_bool)

theorem ret_i64 {a b : Int} (h : a = b) : Ending.returned (.int .i64 a) = .returned (.int .i64 b) := by rw [h]

theorem Gen_any (v : Int) (h0 : 0 ≤ v) (hv : v < 18446744073709551616) (w : World) : Calls Try.prog 41 #[.int .u64 v] w fun e w' => e = .returned (.int .u64 (v / 4294967296)) ∧ w = w' := by
  go_enter Try.func41, Try.ntmps41
  go_wp2_with fail
  refine (Field.High_any v h0 hv _).mono ?_
  rintro e w' ⟨rfl, rfl⟩
  go_wp2
  go_ret
  exact ⟨rfl, rfl⟩
theorem Index_any (v : Int) (h0 : 0 ≤ v) (hv : v < 18446744073709551616) (w : World) : Calls Try.prog 35 #[.int .u64 v] w fun e w' => e = .returned (.int .i64 (v % 4294967296 / 2)) ∧ w = w' := by
  have HG := Lib.hid (get_index v h0)
  have b0 : 0 ≤ v % 4294967296 / 2 := by omega
  have b1 : v % 4294967296 / 2 ≤ 2147483647 := by omega
  go_enter Try.func35, Try.ntmps35
  go_wp2_with fail
  refine (Field.Get_any v 1 31 h0 hv (by decide) _).mono ?_
  rintro e w' ⟨rfl, rfl⟩
  rw [HG.out]
  go_wp2
  go_ret
  exact ⟨rfl, rfl⟩
theorem Plain_any (v : Int) (h0 : 0 ≤ v) (hv : v < 18446744073709551616) (w : World) : Calls Try.prog 54 #[.int .u64 v] w fun e w' => e = .returned (.int .u64 (v - v % 2)) ∧ w = w' := by
  have HG := Lib.hid (put_zero v h0)
  go_enter Try.func54, Try.ntmps54
  go_wp2_with fail
  refine (Field.Put_any v 0 1 0 h0 hv (by decide) (by decide) _).mono ?_
  rintro e w' ⟨rfl, rfl⟩
  rw [HG.out]
  go_wp2
  go_ret
  exact ⟨rfl, rfl⟩
theorem None_any (v : Int) (h0 : 0 ≤ v) (hv : v < 18446744073709551616) (w : World) : Calls Try.prog 53 #[.int .u64 v] w fun e w' => e = .returned (.bool (decide (v % 4294967296 / 2 = 0))) ∧ w = w' := by
  go_enter Try.func53, Try.ntmps53
  go_wp2_with fail
  refine (Index_any v h0 hv _).mono ?_
  rintro e w' ⟨rfl, rfl⟩
  go_wp2
  go_ret
  exact ⟨ret_bool (by first | rfl | simp), rfl⟩

end Go.Proofs.Ytjeifnhfdbkkdaa.Refer
