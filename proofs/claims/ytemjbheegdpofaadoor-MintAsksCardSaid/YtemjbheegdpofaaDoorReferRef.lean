/- The document's own answer for layer 2 (package sundialref02), each function held to the same plain arithmetic as package refer: what each call returns; no call turns the world. -/
import Derived.Test.YtemjbheegdpofaaDoorReferWalks
namespace Go.Proofs.YtemjbheegdpofaaDoor.Ref02
set_option maxRecDepth 20000
open Go.ChangeShapes Go.WideShapes Go.ChangeAt Go.RowKit FM RM
open Go.Proofs.YtemjbheegdpofaaDoor.Field (ret_u64 ret_bool)

theorem Of_any (g i : Int) (g0 : 0 ≤ g) (w : World) : Calls Tryd.prog 30 #[.int .u64 g, .int .i64 i] w fun e w' => e = .returned (.int .u64 (ofI g i)) ∧ w = w' := by
  by_cases h1 : 4294967295 < g
  · rw [ofI_no (by omega)]
    go_enter Tryd.func30, Tryd.ntmps30
    go_wp2
    all_goals go_ret
    all_goals exact ⟨rfl, rfl⟩
  · by_cases h2 : i < 1
    · rw [ofI_no (by omega)]
      go_enter Tryd.func30, Tryd.ntmps30
      go_wp2
      all_goals go_ret
      all_goals exact ⟨rfl, rfl⟩
    · by_cases h3 : 2147483647 < i
      · rw [ofI_no (by omega)]
        go_enter Tryd.func30, Tryd.ntmps30
        go_wp2
        all_goals go_ret
        all_goals exact ⟨rfl, rfl⟩
      · rw [ofI_yes (by omega)]
        go_enter Tryd.func30, Tryd.ntmps30
        go_wp2
        all_goals go_ret
        all_goals exact ⟨rfl, rfl⟩
end Go.Proofs.YtemjbheegdpofaaDoor.Ref02
