/- The document's own answer for layer 2 (package sundialref02), each function held to the same plain arithmetic as package refer: what each call returns; no call turns the world. -/
import Derived.Test.YtpefngpmbladeaaReferWalks
namespace Go.Proofs.Ytpefngpmbladeaa.Ref02
set_option maxRecDepth 20000
open Go.ChangeShapes Go.WideShapes Go.ChangeAt Go.RowKit FM RM
open Go.Proofs.Ytpefngpmbladeaa.Field (ret_u64 ret_bool)

theorem Index_any (v : Int) (h0 : 0 ≤ v) (hv : v < 18446744073709551616) (w : World) : Calls Try.prog 26 #[.int .u64 v] w fun e w' => e = .returned (.int .i64 (v % 4294967296 / 2)) ∧ w = w' := by
  have b0 : 0 ≤ v % 4294967296 / 2 := by omega
  have b1 : v % 4294967296 / 2 ≤ 2147483647 := by omega
  go_enter Try.func26, Try.ntmps26
  go_wp2
  go_ret
  exact ⟨rfl, rfl⟩
theorem Marked_any (v : Int) (h0 : 0 ≤ v) (hv : v < 18446744073709551616) (w : World) : Calls Try.prog 18 #[.int .u64 v] w fun e w' => e = .returned (.bool (decide (v % 2 = 1))) ∧ w = w' := by
  go_enter Try.func18, Try.ntmps18
  go_wp2
  go_ret
  exact ⟨ret_bool (by first | rfl | simp), rfl⟩
end Go.Proofs.Ytpefngpmbladeaa.Ref02
