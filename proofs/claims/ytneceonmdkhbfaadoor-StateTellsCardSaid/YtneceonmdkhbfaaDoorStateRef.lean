/- The document's own answer for layer 4 (package sundialref04) but Text and Digits, each function held to the same plain arithmetic as package state. -/
import Derived.Test.YtneceonmdkhbfaaDoorStateWalks
namespace Go.Proofs.YtneceonmdkhbfaaDoor.Ref04
open Go.ChangeShapes Go.WideShapes Go.ChangeAt Go.RowKit FM SM
open Go.Proofs.YtneceonmdkhbfaaDoor.State (u64_of u64_lo u64_hi)

theorem Pair01_any (h l : Int) (h0 : 0 ≤ h) (l0 : 0 ≤ l) (w : World) : Calls Tryd.prog 20 #[.int .u64 h, .int .u64 l] w fun e w' => e = .returned (.int .u64 (h % 4294967296 * 4294967296 + l % 4294967296)) ∧ w = w' := by
  have b0 : 0 ≤ h % 4294967296 * 4294967296 := by omega
  have b1 : h % 4294967296 * 4294967296 ≤ 18446744069414584320 := by omega
  have b2 : 0 ≤ l % 4294967296 := by omega
  have b3 : l % 4294967296 ≤ 4294967295 := by omega
  go_enter Tryd.func20, Tryd.ntmps20
  go_wp2
  go_ret
  exact ⟨rfl, rfl⟩
theorem Of_any (g s : Int) (g0 : 0 ≤ g) (w : World) : Calls Tryd.prog 7 #[.int .u64 g, .int .i64 s] w fun e w' => e = .returned (.int .u64 (stI g s)) ∧ w = w' := by
  have L := u64_lo s
  have E := Lib.hid (u64_of s)
  have HS := Lib.hid (show stI g s = g % 4294967296 * 4294967296 + s % 4294967296 from rfl)
  go_enter Tryd.func7, Tryd.ntmps7
  go_wp2_with fail
  refine (Pair01_any _ _ g0 (by assumption) _).mono ?_
  rintro e w' ⟨rfl, rfl⟩
  rw [E.out, ← HS.out]
  go_wp2
  go_ret
  exact ⟨rfl, rfl⟩
theorem Gen_any (v : Int) (h0 : 0 ≤ v) (hv : v < 18446744073709551616) (w : World) : Calls Tryd.prog 9 #[.int .u64 v] w fun e w' => e = .returned (.int .u64 (v / 4294967296)) ∧ w = w' := by
  go_enter Tryd.func9, Tryd.ntmps9
  go_wp2
  go_ret
  exact ⟨rfl, rfl⟩
theorem Status_any (v : Int) (h0 : 0 ≤ v) (hv : v < 18446744073709551616) (w : World) : Calls Tryd.prog 11 #[.int .u64 v] w fun e w' => e = .returned (.int .i64 (v % 4294967296)) ∧ w = w' := by
  have b0 : 0 ≤ v % 4294967296 := by omega
  have b1 : v % 4294967296 ≤ 4294967295 := by omega
  go_enter Tryd.func11, Tryd.ntmps11
  go_wp2
  go_ret
  exact ⟨rfl, rfl⟩
theorem Is_any (v g s : Int) (h0 : 0 ≤ v) (hv : v < 18446744073709551616) (g0 : 0 ≤ g) (w : World) : Calls Tryd.prog 13 #[.int .u64 v, .int .u64 g, .int .i64 s] w fun e w' => e = .returned (.bool (isI v g s)) ∧ w = w' := by
  by_cases h1 : g ≤ 4294967295
  · by_cases h2 : 0 ≤ s
    · by_cases h3 : s ≤ 4
      · have hp := is_parts h0 hv g0 h1 h2 h3
        by_cases h4 : v / 4294967296 = g
        · by_cases h5 : v % 4294967296 = s
          · rw [show isI v g s = true from decide_eq_true ⟨h1, h2, h3, hp.2 ⟨h4, h5⟩⟩]
            have d1 : decide (g ≤ 4294967295) = true := by simpa using h1
            have d2 : decide (0 ≤ s) = true := by simpa using h2
            have d3 : decide (s ≤ 4) = true := by simpa using h3
            have e4 : (v / 4294967296 == g) = true := by simpa using h4
            have e5 : (v % 4294967296 == s) = true := by simpa using h5
            have H4 := Lib.hid h4
            have H5 := Lib.hid h5
            clear hp h4 h5
            go_enter Tryd.func13, Tryd.ntmps13
            go_wp2_with fail
            refine (Gen_any v h0 hv _).mono ?_
            rintro e w' ⟨rfl, rfl⟩
            go_wp2_with fail
            refine (Status_any v h0 hv _).mono ?_
            rintro e w' ⟨rfl, rfl⟩
            go_wp2
            go_ret
            exact ⟨rfl, rfl⟩
          · rw [show isI v g s = false from decide_eq_false fun x => h5 (hp.1 x.2.2.2).2]
            have d1 : decide (g ≤ 4294967295) = true := by simpa using h1
            have d2 : decide (0 ≤ s) = true := by simpa using h2
            have d3 : decide (s ≤ 4) = true := by simpa using h3
            have e4 : (v / 4294967296 == g) = true := by simpa using h4
            have e5 : (v % 4294967296 == s) = false := by simpa using h5
            have H4 := Lib.hid h4
            clear hp h4
            go_enter Tryd.func13, Tryd.ntmps13
            go_wp2_with fail
            refine (Gen_any v h0 hv _).mono ?_
            rintro e w' ⟨rfl, rfl⟩
            go_wp2_with fail
            refine (Status_any v h0 hv _).mono ?_
            rintro e w' ⟨rfl, rfl⟩
            go_wp2
            go_ret
            exact ⟨rfl, rfl⟩
        · rw [show isI v g s = false from decide_eq_false fun x => h4 (hp.1 x.2.2.2).1]
          have d1 : decide (g ≤ 4294967295) = true := by simpa using h1
          have d2 : decide (0 ≤ s) = true := by simpa using h2
          have d3 : decide (s ≤ 4) = true := by simpa using h3
          have e4 : (v / 4294967296 == g) = false := by simpa using h4
          clear hp
          go_enter Tryd.func13, Tryd.ntmps13
          go_wp2_with fail
          refine (Gen_any v h0 hv _).mono ?_
          rintro e w' ⟨rfl, rfl⟩
          go_wp2
          go_ret
          exact ⟨rfl, rfl⟩
      · rw [show isI v g s = false from decide_eq_false fun x => h3 x.2.2.1]
        have d1 : decide (g ≤ 4294967295) = true := by simpa using h1
        have d2 : decide (0 ≤ s) = true := by simpa using h2
        have d3 : decide (s ≤ 4) = false := by simpa using h3
        go_enter Tryd.func13, Tryd.ntmps13
        go_wp2
        go_ret
        exact ⟨rfl, rfl⟩
    · rw [show isI v g s = false from decide_eq_false fun x => h2 x.2.1]
      have d1 : decide (g ≤ 4294967295) = true := by simpa using h1
      have d2 : decide (0 ≤ s) = false := by simpa using h2
      go_enter Tryd.func13, Tryd.ntmps13
      go_wp2
      go_ret
      exact ⟨rfl, rfl⟩
  · rw [show isI v g s = false from decide_eq_false fun x => h1 x.1]
    have d1 : decide (g ≤ 4294967295) = false := by simpa using h1
    go_enter Tryd.func13, Tryd.ntmps13
    go_wp2
    go_ret
    exact ⟨rfl, rfl⟩
theorem Next_any (v : Int) (h0 : 0 ≤ v) (hv : v < 18446744073709551616) (w : World) : Calls Tryd.prog 15 #[.int .u64 v] w fun e w' => e = .returned (.int .u64 (nextI v)) ∧ w = w' := by
  by_cases h : v / 4294967296 = 4294967295
  · rw [show nextI v = stI 4294967295 4 from if_pos h]
    have h' : (v / 4294967296 == 4294967295) = true := by simpa using h
    clear h
    go_enter Tryd.func15, Tryd.ntmps15
    go_wp2_with fail
    refine (Gen_any v h0 hv _).mono ?_
    rintro e w' ⟨rfl, rfl⟩
    go_wp2_with fail
    refine (Of_any 4294967295 4 (by decide) _).mono ?_
    rintro e w' ⟨rfl, rfl⟩
    go_wp2
    go_ret
    exact ⟨rfl, rfl⟩
  · rw [show nextI v = stI (v / 4294967296 + 1) 0 from if_neg h]
    have h' : (v / 4294967296 == 4294967295) = false := by simpa using h
    have b0 : 0 ≤ v / 4294967296 := by omega
    have b1 : v / 4294967296 ≤ 4294967294 := by omega
    clear h
    go_enter Tryd.func15, Tryd.ntmps15
    go_wp2_with fail
    refine (Gen_any v h0 hv _).mono ?_
    rintro e w' ⟨rfl, rfl⟩
    go_wp2_with fail
    refine (Gen_any v h0 hv _).mono ?_
    rintro e w' ⟨rfl, rfl⟩
    go_wp2_with fail
    refine (Of_any (v / 4294967296 + 1) 0 (by omega) _).mono ?_
    rintro e w' ⟨rfl, rfl⟩
    go_wp2
    go_ret
    exact ⟨rfl, rfl⟩
end Go.Proofs.YtneceonmdkhbfaaDoor.Ref04
