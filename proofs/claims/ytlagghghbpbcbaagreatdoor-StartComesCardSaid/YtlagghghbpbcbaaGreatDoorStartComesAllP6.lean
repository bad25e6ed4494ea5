import Derived.Test.YtlagghghbpbcbaaGreatDoorStartComesAllP5
import Derived.Test.YtlagghghbpbcbaaGreatDoorStartComesAllP1
/- The functions of package state (layer 4) but Text, each held to plain arithmetic: what each call returns, at every word, generation and status that the types can hold; no call turns the world. -/
namespace Go.Proofs.YtlagghghbpbcbaaGreatDoor.State
set_option maxRecDepth 20000
open Go.ChangeShapes Go.WideShapes Go.ChangeAt Go.RowKit FM SM
open Go.Proofs.YtlagghghbpbcbaaGreatDoor.Field (ret_u64 ret_bool)

theorem u64_of (s : Int) : IntKind.u64.wrap s % 4294967296 = s % 4294967296 := by rw [IntKind.wrap_u64]; omega
theorem u64_lo (s : Int) : 0 ≤ IntKind.u64.wrap s := by rw [IntKind.wrap_u64]; omega
theorem u64_hi (s : Int) : IntKind.u64.wrap s < 18446744073709551616 := by rw [IntKind.wrap_u64]; omega

theorem Of_any (g s : Int) (g0 : 0 ≤ g) (w : World) : Calls Tryz.prog 77 #[.int .u64 g, .int .i64 s] w fun e w' => e = .returned (.int .u64 (stI g s)) ∧ w = w' := by
  have L := u64_lo s
  have H := u64_hi s
  have E := Lib.hid (u64_of s)
  have HS := Lib.hid (show stI g s = g % 4294967296 * 4294967296 + s % 4294967296 from rfl)
  go_enter Tryz.func77, Tryz.ntmps77
  go_wp2_with fail
  refine (Field.Pair_any _ _ g0 (by assumption) (by assumption) _).mono ?_
  rintro e w' ⟨rfl, rfl⟩
  rw [E.out, ← HS.out]
  go_wp2
  go_ret
  exact ⟨rfl, rfl⟩
theorem Gen_any (v : Int) (h0 : 0 ≤ v) (hv : v < 18446744073709551616) (w : World) : Calls Tryz.prog 18 #[.int .u64 v] w fun e w' => e = .returned (.int .u64 (v / 4294967296)) ∧ w = w' := by
  go_enter Tryz.func18, Tryz.ntmps18
  go_wp2_with fail
  refine (Field.High_any v h0 hv _).mono ?_
  rintro e w' ⟨rfl, rfl⟩
  go_wp2
  go_ret
  exact ⟨rfl, rfl⟩
end Go.Proofs.YtlagghghbpbcbaaGreatDoor.State

/- The document's own answer for layer 4 (package sundialref04) but Text and Digits, each function held to the same plain arithmetic as package state. -/
namespace Go.Proofs.YtlagghghbpbcbaaGreatDoor.Ref04
set_option maxRecDepth 20000
open Go.ChangeShapes Go.WideShapes Go.ChangeAt Go.RowKit FM SM
open Go.Proofs.YtlagghghbpbcbaaGreatDoor.State (u64_of u64_lo u64_hi)

theorem Pair01_any (h l : Int) (h0 : 0 ≤ h) (l0 : 0 ≤ l) (w : World) : Calls Tryz.prog 52 #[.int .u64 h, .int .u64 l] w fun e w' => e = .returned (.int .u64 (h % 4294967296 * 4294967296 + l % 4294967296)) ∧ w = w' := by
  have b0 : 0 ≤ h % 4294967296 * 4294967296 := by omega
  have b1 : h % 4294967296 * 4294967296 ≤ 18446744069414584320 := by omega
  have b2 : 0 ≤ l % 4294967296 := by omega
  have b3 : l % 4294967296 ≤ 4294967295 := by omega
  go_enter Tryz.func52, Tryz.ntmps52
  go_wp2
  go_ret
  exact ⟨rfl, rfl⟩
theorem Of_any (g s : Int) (g0 : 0 ≤ g) (w : World) : Calls Tryz.prog 23 #[.int .u64 g, .int .i64 s] w fun e w' => e = .returned (.int .u64 (stI g s)) ∧ w = w' := by
  have L := u64_lo s
  have E := Lib.hid (u64_of s)
  have HS := Lib.hid (show stI g s = g % 4294967296 * 4294967296 + s % 4294967296 from rfl)
  go_enter Tryz.func23, Tryz.ntmps23
  go_wp2_with fail
  refine (Pair01_any _ _ g0 (by assumption) _).mono ?_
  rintro e w' ⟨rfl, rfl⟩
  rw [E.out, ← HS.out]
  go_wp2
  go_ret
  exact ⟨rfl, rfl⟩
end Go.Proofs.YtlagghghbpbcbaaGreatDoor.Ref04
