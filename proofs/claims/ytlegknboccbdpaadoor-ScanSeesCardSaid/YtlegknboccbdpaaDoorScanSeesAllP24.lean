import Derived.Test.YtlegknboccbdpaaDoorScanSeesAllP8
/- The document's own answer for layer 4 (package sundialref04) but Text and Digits, each function held to the same plain arithmetic as package state. -/
namespace Go.Proofs.YtlegknboccbdpaaDoor.Ref04
set_option maxRecDepth 20000
open Go.ChangeShapes Go.WideShapes Go.ChangeAt Go.RowKit FM SM
open Go.Proofs.YtlegknboccbdpaaDoor.State (u64_of u64_lo u64_hi)

theorem Pair01_any (h l : Int) (h0 : 0 ≤ h) (l0 : 0 ≤ l) (w : World) : Calls Tryd.prog 41 #[.int .u64 h, .int .u64 l] w fun e w' => e = .returned (.int .u64 (h % 4294967296 * 4294967296 + l % 4294967296)) ∧ w = w' := by
  have b0 : 0 ≤ h % 4294967296 * 4294967296 := by omega
  have b1 : h % 4294967296 * 4294967296 ≤ 18446744069414584320 := by omega
  have b2 : 0 ≤ l % 4294967296 := by omega
  have b3 : l % 4294967296 ≤ 4294967295 := by omega
  go_enter Tryd.func41, Tryd.ntmps41
  go_wp2
  go_ret
  exact ⟨rfl, rfl⟩
theorem Of_any (g s : Int) (g0 : 0 ≤ g) (w : World) : Calls Tryd.prog 16 #[.int .u64 g, .int .i64 s] w fun e w' => e = .returned (.int .u64 (stI g s)) ∧ w = w' := by
  have L := u64_lo s
  have E := Lib.hid (u64_of s)
  have HS := Lib.hid (show stI g s = g % 4294967296 * 4294967296 + s % 4294967296 from rfl)
  go_enter Tryd.func16, Tryd.ntmps16
  go_wp2_with fail
  refine (Pair01_any _ _ g0 (by assumption) _).mono ?_
  rintro e w' ⟨rfl, rfl⟩
  rw [E.out, ← HS.out]
  go_wp2
  go_ret
  exact ⟨rfl, rfl⟩
end Go.Proofs.YtlegknboccbdpaaDoor.Ref04
