import Derived.Test.YtafjokjmogadnaaGreatDoorCollectFreesAllP15
import Derived.Test.YtafjokjmogadnaaGreatDoorCollectFreesAllP1
/- The functions of package state (layer 4) but Text, each held to plain arithmetic: what each call returns, at every word, generation and status that the types can hold; no call turns the world. -/
namespace Go.Proofs.YtafjokjmogadnaaGreatDoor.State
set_option maxRecDepth 20000
open Go.ChangeShapes Go.WideShapes Go.ChangeAt Go.RowKit FM SM
open Go.Proofs.YtafjokjmogadnaaGreatDoor.Field (ret_u64 ret_bool)

theorem u64_of (s : Int) : IntKind.u64.wrap s % 4294967296 = s % 4294967296 := by rw [IntKind.wrap_u64]; omega
theorem u64_lo (s : Int) : 0 ≤ IntKind.u64.wrap s := by rw [IntKind.wrap_u64]; omega
theorem u64_hi (s : Int) : IntKind.u64.wrap s < 18446744073709551616 := by rw [IntKind.wrap_u64]; omega

theorem Of_any (g s : Int) (g0 : 0 ≤ g) (w : World) : Calls Tryz.prog 62 #[.int .u64 g, .int .i64 s] w fun e w' => e = .returned (.int .u64 (stI g s)) ∧ w = w' := by
  have L := u64_lo s
  have H := u64_hi s
  have E := Lib.hid (u64_of s)
  have HS := Lib.hid (show stI g s = g % 4294967296 * 4294967296 + s % 4294967296 from rfl)
  go_enter Tryz.func62, Tryz.ntmps62
  go_wp2_with fail
  refine (Field.Pair_any _ _ g0 (by assumption) (by assumption) _).mono ?_
  rintro e w' ⟨rfl, rfl⟩
  rw [E.out, ← HS.out]
  go_wp2
  go_ret
  exact ⟨rfl, rfl⟩
theorem Gen_any (v : Int) (h0 : 0 ≤ v) (hv : v < 18446744073709551616) (w : World) : Calls Tryz.prog 109 #[.int .u64 v] w fun e w' => e = .returned (.int .u64 (v / 4294967296)) ∧ w = w' := by
  go_enter Tryz.func109, Tryz.ntmps109
  go_wp2_with fail
  refine (Field.High_any v h0 hv _).mono ?_
  rintro e w' ⟨rfl, rfl⟩
  go_wp2
  go_ret
  exact ⟨rfl, rfl⟩
theorem Next_any (v : Int) (h0 : 0 ≤ v) (hv : v < 18446744073709551616) (w : World) : Calls Tryz.prog 101 #[.int .u64 v] w fun e w' => e = .returned (.int .u64 (nextI v)) ∧ w = w' := by
  by_cases h : v / 4294967296 = 4294967295
  · rw [show nextI v = stI 4294967295 4 from if_pos h]
    have h' : (v / 4294967296 == 4294967295) = true := by simpa using h
    have b0 : 0 ≤ v / 4294967296 := by omega
    have H := Lib.hid h
    clear h
    go_enter Tryz.func101, Tryz.ntmps101
    go_wp2_with fail
    refine (Gen_any v h0 hv _).mono ?_
    rintro e w' ⟨rfl, rfl⟩
    go_wp2_with fail
    refine (Of_any (v / 4294967296) 4 b0 _).mono ?_
    rintro e w' ⟨rfl, rfl⟩
    rw [H.out]
    go_wp2
    go_ret
    exact ⟨rfl, rfl⟩
  · rw [show nextI v = stI (v / 4294967296 + 1) 0 from if_neg h]
    have h' : (v / 4294967296 == 4294967295) = false := by simpa using h
    have b0 : 0 ≤ v / 4294967296 := by omega
    have b1 : v / 4294967296 ≤ 4294967294 := by omega
    clear h
    go_enter Tryz.func101, Tryz.ntmps101
    go_wp2_with fail
    refine (Gen_any v h0 hv _).mono ?_
    rintro e w' ⟨rfl, rfl⟩
    go_wp2_with fail
    refine (Of_any (v / 4294967296 + 1) 0 (by omega) _).mono ?_
    rintro e w' ⟨rfl, rfl⟩
    go_wp2
    go_ret
    exact ⟨rfl, rfl⟩
end Go.Proofs.YtafjokjmogadnaaGreatDoor.State
