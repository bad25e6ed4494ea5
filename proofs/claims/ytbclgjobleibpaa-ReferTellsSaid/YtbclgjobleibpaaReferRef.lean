/- The document's own answer for layer 2 (package sundialref02), each function held to the same plain arithmetic as package refer: what each call returns; no call turns the world. -/
import Derived.Test.YtbclgjobleibpaaReferWalks
namespace Go.Proofs.Ytbclgjobleibpaa.Ref02
open Go.ChangeShapes Go.WideShapes Go.ChangeAt Go.RowKit FM RM
open Go.Proofs.Ytbclgjobleibpaa.Field (ret_u64 ret_bool)

theorem Gen_any (v : Int) (h0 : 0 ≤ v) (hv : v < 18446744073709551616) (w : World) : Calls Try.prog 9 #[.int .u64 v] w fun e w' => e = .returned (.int .u64 (v / 4294967296)) ∧ w = w' := by
  go_enter Try.func9, Try.ntmps9
  go_wp2
  go_ret
  exact ⟨rfl, rfl⟩
theorem Index_any (v : Int) (h0 : 0 ≤ v) (hv : v < 18446744073709551616) (w : World) : Calls Try.prog 11 #[.int .u64 v] w fun e w' => e = .returned (.int .i64 (v % 4294967296 / 2)) ∧ w = w' := by
  have b0 : 0 ≤ v % 4294967296 / 2 := by omega
  have b1 : v % 4294967296 / 2 ≤ 2147483647 := by omega
  go_enter Try.func11, Try.ntmps11
  go_wp2
  go_ret
  exact ⟨rfl, rfl⟩
theorem Marked_any (v : Int) (h0 : 0 ≤ v) (hv : v < 18446744073709551616) (w : World) : Calls Try.prog 15 #[.int .u64 v] w fun e w' => e = .returned (.bool (decide (v % 2 = 1))) ∧ w = w' := by
  go_enter Try.func15, Try.ntmps15
  go_wp2
  go_ret
  exact ⟨ret_bool (by first | rfl | simp), rfl⟩
theorem Plain_any (v : Int) (h0 : 0 ≤ v) (hv : v < 18446744073709551616) (w : World) : Calls Try.prog 19 #[.int .u64 v] w fun e w' => e = .returned (.int .u64 (v - v % 2)) ∧ w = w' := by
  have b0 : 0 ≤ v - v % 2 := by omega
  have b1 : v - v % 2 ≤ 18446744073709551615 := by omega
  go_enter Try.func19, Try.ntmps19
  go_wp2
  go_ret
  exact ⟨rfl, rfl⟩
theorem Mark_any (v : Int) (h0 : 0 ≤ v) (hv : v < 18446744073709551616) (w : World) : Calls Try.prog 17 #[.int .u64 v] w fun e w' => e = .returned (.int .u64 (v - v % 2 + 1)) ∧ w = w' := by
  have b0 : 0 ≤ v - v % 2 + 1 := by omega
  have b1 : v - v % 2 + 1 ≤ 18446744073709551615 := by omega
  go_enter Try.func17, Try.ntmps17
  go_wp2_with fail
  refine (Plain_any v h0 hv _).mono ?_
  rintro e w' ⟨rfl, rfl⟩
  go_wp2
  go_ret
  exact ⟨rfl, rfl⟩
theorem None_any (v : Int) (h0 : 0 ≤ v) (hv : v < 18446744073709551616) (w : World) : Calls Try.prog 13 #[.int .u64 v] w fun e w' => e = .returned (.bool (decide (v % 4294967296 / 2 = 0))) ∧ w = w' := by
  go_enter Try.func13, Try.ntmps13
  go_wp2_with fail
  refine (Index_any v h0 hv _).mono ?_
  rintro e w' ⟨rfl, rfl⟩
  go_wp2
  go_ret
  exact ⟨ret_bool (by first | rfl | simp), rfl⟩
theorem Of_any (g i : Int) (g0 : 0 ≤ g) (w : World) : Calls Try.prog 7 #[.int .u64 g, .int .i64 i] w fun e w' => e = .returned (.int .u64 (ofI g i)) ∧ w = w' := by
  by_cases h1 : 4294967295 < g
  · rw [ofI_no (by omega)]
    go_enter Try.func7, Try.ntmps7
    go_wp2
    all_goals go_ret
    all_goals exact ⟨rfl, rfl⟩
  · by_cases h2 : i < 1
    · rw [ofI_no (by omega)]
      go_enter Try.func7, Try.ntmps7
      go_wp2
      all_goals go_ret
      all_goals exact ⟨rfl, rfl⟩
    · by_cases h3 : 2147483647 < i
      · rw [ofI_no (by omega)]
        go_enter Try.func7, Try.ntmps7
        go_wp2
        all_goals go_ret
        all_goals exact ⟨rfl, rfl⟩
      · rw [ofI_yes (by omega)]
        go_enter Try.func7, Try.ntmps7
        go_wp2
        all_goals go_ret
        all_goals exact ⟨rfl, rfl⟩
end Go.Proofs.Ytbclgjobleibpaa.Ref02
