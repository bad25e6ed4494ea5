/- The document's own answer for layer 2 (package sundialref02), each function held to the same plain arithmetic as package refer: what each call returns; no call turns the world. -/
import Derived.Test.YtjbfhnkjcfpfpaaDoorReferWalks
namespace Go.Proofs.YtjbfhnkjcfpfpaaDoor.Ref02
set_option maxRecDepth 20000
open Go.ChangeShapes Go.WideShapes Go.ChangeAt Go.RowKit FM RM
open Go.Proofs.YtjbfhnkjcfpfpaaDoor.Field (ret_u64 ret_bool)

theorem Gen_any (v : Int) (h0 : 0 ≤ v) (hv : v < 18446744073709551616) (w : World) : Calls Tryd.prog 34 #[.int .u64 v] w fun e w' => e = .returned (.int .u64 (v / 4294967296)) ∧ w = w' := by
  go_enter Tryd.func34, Tryd.ntmps34
  go_wp2
  go_ret
  exact ⟨rfl, rfl⟩
theorem Index_any (v : Int) (h0 : 0 ≤ v) (hv : v < 18446744073709551616) (w : World) : Calls Tryd.prog 35 #[.int .u64 v] w fun e w' => e = .returned (.int .i64 (v % 4294967296 / 2)) ∧ w = w' := by
  have b0 : 0 ≤ v % 4294967296 / 2 := by omega
  have b1 : v % 4294967296 / 2 ≤ 2147483647 := by omega
  go_enter Tryd.func35, Tryd.ntmps35
  go_wp2
  go_ret
  exact ⟨rfl, rfl⟩
theorem Of_any (g i : Int) (g0 : 0 ≤ g) (w : World) : Calls Tryd.prog 22 #[.int .u64 g, .int .i64 i] w fun e w' => e = .returned (.int .u64 (ofI g i)) ∧ w = w' := by
  by_cases h1 : 4294967295 < g
  · rw [ofI_no (by omega)]
    go_enter Tryd.func22, Tryd.ntmps22
    go_wp2
    all_goals go_ret
    all_goals exact ⟨rfl, rfl⟩
  · by_cases h2 : i < 1
    · rw [ofI_no (by omega)]
      go_enter Tryd.func22, Tryd.ntmps22
      go_wp2
      all_goals go_ret
      all_goals exact ⟨rfl, rfl⟩
    · by_cases h3 : 2147483647 < i
      · rw [ofI_no (by omega)]
        go_enter Tryd.func22, Tryd.ntmps22
        go_wp2
        all_goals go_ret
        all_goals exact ⟨rfl, rfl⟩
      · rw [ofI_yes (by omega)]
        go_enter Tryd.func22, Tryd.ntmps22
        go_wp2
        all_goals go_ret
        all_goals exact ⟨rfl, rfl⟩
end Go.Proofs.YtjbfhnkjcfpfpaaDoor.Ref02
