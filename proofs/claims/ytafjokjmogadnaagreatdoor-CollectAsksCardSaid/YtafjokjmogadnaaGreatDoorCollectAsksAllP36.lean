import Derived.Test.YtafjokjmogadnaaGreatDoorCollectAsksAllP20
/- The document's own answer for layer 4 (package sundialref04) but Text and Digits, each function held to the same plain arithmetic as package state. -/
namespace Go.Proofs.YtafjokjmogadnaaGreatDoor.Ref04
set_option maxRecDepth 20000
open Go.ChangeShapes Go.WideShapes Go.ChangeAt Go.RowKit FM SM
open Go.Proofs.YtafjokjmogadnaaGreatDoor.State (u64_of u64_lo u64_hi)

theorem Pair01_any (h l : Int) (h0 : 0 ≤ h) (l0 : 0 ≤ l) (w : World) : Calls Tryz.prog 91 #[.int .u64 h, .int .u64 l] w fun e w' => e = .returned (.int .u64 (h % 4294967296 * 4294967296 + l % 4294967296)) ∧ w = w' := by
  have b0 : 0 ≤ h % 4294967296 * 4294967296 := by omega
  have b1 : h % 4294967296 * 4294967296 ≤ 18446744069414584320 := by omega
  have b2 : 0 ≤ l % 4294967296 := by omega
  have b3 : l % 4294967296 ≤ 4294967295 := by omega
  go_enter Tryz.func91, Tryz.ntmps91
  go_wp2
  go_ret
  exact ⟨rfl, rfl⟩
theorem Of_any (g s : Int) (g0 : 0 ≤ g) (w : World) : Calls Tryz.prog 57 #[.int .u64 g, .int .i64 s] w fun e w' => e = .returned (.int .u64 (stI g s)) ∧ w = w' := by
  have L := u64_lo s
  have E := Lib.hid (u64_of s)
  have HS := Lib.hid (show stI g s = g % 4294967296 * 4294967296 + s % 4294967296 from rfl)
  go_enter Tryz.func57, Tryz.ntmps57
  go_wp2_with fail
  refine (Pair01_any _ _ g0 (by assumption) _).mono ?_
  rintro e w' ⟨rfl, rfl⟩
  rw [E.out, ← HS.out]
  go_wp2
  go_ret
  exact ⟨rfl, rfl⟩
theorem Gen_any (v : Int) (h0 : 0 ≤ v) (hv : v < 18446744073709551616) (w : World) : Calls Tryz.prog 90 #[.int .u64 v] w fun e w' => e = .returned (.int .u64 (v / 4294967296)) ∧ w = w' := by
  go_enter Tryz.func90, Tryz.ntmps90
  go_wp2
  go_ret
  exact ⟨rfl, rfl⟩
theorem Next_any (v : Int) (h0 : 0 ≤ v) (hv : v < 18446744073709551616) (w : World) : Calls Tryz.prog 56 #[.int .u64 v] w fun e w' => e = .returned (.int .u64 (nextI v)) ∧ w = w' := by
  by_cases h : v / 4294967296 = 4294967295
  · rw [show nextI v = stI 4294967295 4 from if_pos h]
    have h' : (v / 4294967296 == 4294967295) = true := by simpa using h
    clear h
    go_enter Tryz.func56, Tryz.ntmps56
    go_wp2_with fail
    refine (Gen_any v h0 hv _).mono ?_
    rintro e w' ⟨rfl, rfl⟩
    go_wp2_with fail
    refine (Of_any 4294967295 4 (by decide) _).mono ?_
    rintro e w' ⟨rfl, rfl⟩
    go_wp2
    go_ret
    exact ⟨rfl, rfl⟩
  · rw [show nextI v = stI (v / 4294967296 + 1) 0 from if_neg h]
    have h' : (v / 4294967296 == 4294967295) = false := by simpa using h
    have b0 : 0 ≤ v / 4294967296 := by omega
    have b1 : v / 4294967296 ≤ 4294967294 := by omega
    clear h
    go_enter Tryz.func56, Tryz.ntmps56
    go_wp2_with fail
    refine (Gen_any v h0 hv _).mono ?_
    rintro e w' ⟨rfl, rfl⟩
    go_wp2_with fail
    refine (Gen_any v h0 hv _).mono ?_
    rintro e w' ⟨rfl, rfl⟩
    go_wp2_with fail
    refine (Of_any (v / 4294967296 + 1) 0 (by omega) _).mono ?_
    rintro e w' ⟨rfl, rfl⟩
    go_wp2
    go_ret
    exact ⟨rfl, rfl⟩
end Go.Proofs.YtafjokjmogadnaaGreatDoor.Ref04
