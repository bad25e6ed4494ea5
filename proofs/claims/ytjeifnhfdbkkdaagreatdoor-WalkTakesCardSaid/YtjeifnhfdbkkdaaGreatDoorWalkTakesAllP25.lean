import Derived.Test.YtjeifnhfdbkkdaaGreatDoorRows
import Derived.WalkKit
import Derived.ProofKit
import Derived.Lib.Hide
/- The document's halves of words (package sundialref01): High, Low, Pair alone, each where the seat has it. -/
namespace Go.Proofs.YtjeifnhfdbkkdaaGreatDoor.R01
set_option maxRecDepth 20000
open Go.ChangeShapes Go.WideShapes Go.ChangeAt Go.RowKit

theorem Pair_any (h l : Int) (h0 : 0 ≤ h) (l0 : 0 ≤ l) (w : World) : Calls Tryz.prog 76 #[.int .u64 h, .int .u64 l] w fun e w' => e = .returned (.int .u64 (h % 4294967296 * 4294967296 + l % 4294967296)) ∧ w = w' := by
  have b0 : 0 ≤ h % 4294967296 * 4294967296 := by omega
  have b1 : h % 4294967296 * 4294967296 ≤ 18446744069414584320 := by omega
  have b2 : 0 ≤ l % 4294967296 := by omega
  have b3 : l % 4294967296 ≤ 4294967295 := by omega
  go_enter Tryz.func76, Tryz.ntmps76
  go_wp2
  go_ret
  exact ⟨rfl, rfl⟩
end Go.Proofs.YtjeifnhfdbkkdaaGreatDoor.R01
