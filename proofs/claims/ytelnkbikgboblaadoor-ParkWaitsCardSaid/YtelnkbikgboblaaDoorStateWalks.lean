/- The functions of package state (layer 4) but Text, each held to plain arithmetic: what each call returns, at every word, generation and status that the types can hold; no call turns the world. -/
import Derived.Test.YtelnkbikgboblaaDoorFieldWalks
import Derived.Test.YtelnkbikgboblaaDoorStateMath
namespace Go.Proofs.YtelnkbikgboblaaDoor.State
set_option maxRecDepth 20000
open Go.ChangeShapes Go.WideShapes Go.ChangeAt Go.RowKit FM SM
open Go.Proofs.YtelnkbikgboblaaDoor.Field (ret_u64 ret_bool)

theorem u64_of (s : Int) : IntKind.u64.wrap s % 4294967296 = s % 4294967296 := by rw [IntKind.wrap_u64]; omega
theorem u64_lo (s : Int) : 0 ≤ IntKind.u64.wrap s := by rw [IntKind.wrap_u64]; omega
theorem u64_hi (s : Int) : IntKind.u64.wrap s < 18446744073709551616 := by rw [IntKind.wrap_u64]; omega

theorem Of_any (g s : Int) (g0 : 0 ≤ g) (w : World) : Calls Tryd.prog 30 #[.int .u64 g, .int .i64 s] w fun e w' => e = .returned (.int .u64 (stI g s)) ∧ w = w' := by
  have L := u64_lo s
  have H := u64_hi s
  have E := Lib.hid (u64_of s)
  have HS := Lib.hid (show stI g s = g % 4294967296 * 4294967296 + s % 4294967296 from rfl)
  go_enter Tryd.func30, Tryd.ntmps30
  go_wp2_with fail
  refine (Field.Pair_any _ _ g0 (by assumption) (by assumption) _).mono ?_
  rintro e w' ⟨rfl, rfl⟩
  rw [E.out, ← HS.out]
  go_wp2
  go_ret
  exact ⟨rfl, rfl⟩
end Go.Proofs.YtelnkbikgboblaaDoor.State
