import Derived.Test.YtlegknboccbdpaaDoorScanSeesAllP5
import Derived.Test.YtlegknboccbdpaaDoorScanSeesAllP1
/- The functions of package state (layer 4) but Text, each held to plain arithmetic: what each call returns, at every word, generation and status that the types can hold; no call turns the world. -/
namespace Go.Proofs.YtlegknboccbdpaaDoor.State
set_option maxRecDepth 20000
open Go.ChangeShapes Go.WideShapes Go.ChangeAt Go.RowKit FM SM
open Go.Proofs.YtlegknboccbdpaaDoor.Field (ret_u64 ret_bool)

theorem u64_of (s : Int) : IntKind.u64.wrap s % 4294967296 = s % 4294967296 := by rw [IntKind.wrap_u64]; omega
theorem u64_lo (s : Int) : 0 ≤ IntKind.u64.wrap s := by rw [IntKind.wrap_u64]; omega
theorem u64_hi (s : Int) : IntKind.u64.wrap s < 18446744073709551616 := by rw [IntKind.wrap_u64]; omega

theorem Of_any (g s : Int) (g0 : 0 ≤ g) (w : World) : Calls Tryd.prog 28 #[.int .u64 g, .int .i64 s] w fun e w' => e = .returned (.int .u64 (stI g s)) ∧ w = w' := by
  have L := u64_lo s
  have H := u64_hi s
  have E := Lib.hid (u64_of s)
  have HS := Lib.hid (show stI g s = g % 4294967296 * 4294967296 + s % 4294967296 from rfl)
  go_enter Tryd.func28, Tryd.ntmps28
  go_wp2_with fail
  refine (Field.Pair_any _ _ g0 (by assumption) (by assumption) _).mono ?_
  rintro e w' ⟨rfl, rfl⟩
  rw [E.out, ← HS.out]
  go_wp2
  go_ret
  exact ⟨rfl, rfl⟩
theorem Is_yes (v g s : Int) (g0 : 0 ≤ g) (h : g ≤ 4294967295 ∧ 0 ≤ s ∧ s ≤ 4 ∧ v = stI g s) (w : World) : Calls Tryd.prog 38 #[.int .u64 v, .int .u64 g, .int .i64 s] w fun e w' => e = .returned (.bool true) ∧ w = w' := by
  obtain ⟨h1, h2, h3, h4⟩ := h
  subst h4
  have d1 : decide (g ≤ 4294967295) = true := by simpa using h1
  have d2 : decide (0 ≤ s) = true := by simpa using h2
  have d3 : decide (s ≤ 4) = true := by simpa using h3
  go_enter Tryd.func38, Tryd.ntmps38
  go_wp2_with fail
  refine (Of_any g s g0 _).mono ?_
  rintro e w' ⟨rfl, rfl⟩
  go_wp2
  go_ret
  exact ⟨rfl, rfl⟩
theorem Is_no (v g s : Int) (g0 : 0 ≤ g) (h : ¬ (g ≤ 4294967295 ∧ 0 ≤ s ∧ s ≤ 4 ∧ v = stI g s)) (w : World) : Calls Tryd.prog 38 #[.int .u64 v, .int .u64 g, .int .i64 s] w fun e w' => e = .returned (.bool false) ∧ w = w' := by
  by_cases h4 : v = stI g s
  · subst h4
    by_cases h1 : g ≤ 4294967295
    · by_cases h2 : 0 ≤ s
      · have h3 : decide (s ≤ 4) = false := decide_eq_false (by omega)
        clear h
        go_enter Tryd.func38, Tryd.ntmps38
        go_wp2_with fail
        refine (Of_any g s g0 _).mono ?_
        rintro e w' ⟨rfl, rfl⟩
        go_wp2
        go_ret
        exact ⟨rfl, rfl⟩
      · have h3 : s < 0 := by omega
        clear h h2
        go_enter Tryd.func38, Tryd.ntmps38
        go_wp2_with fail
        refine (Of_any g s g0 _).mono ?_
        rintro e w' ⟨rfl, rfl⟩
        go_wp2
        go_ret
        exact ⟨rfl, rfl⟩
    · have h3 : 4294967295 < g := by omega
      clear h h1
      go_enter Tryd.func38, Tryd.ntmps38
      go_wp2_with fail
      refine (Of_any g s g0 _).mono ?_
      rintro e w' ⟨rfl, rfl⟩
      go_wp2
      go_ret
      exact ⟨rfl, rfl⟩
  · have h5 : (v == stI g s) = false := by simpa using h4
    clear h
    go_enter Tryd.func38, Tryd.ntmps38
    go_wp2_with fail
    refine (Of_any g s g0 _).mono ?_
    rintro e w' ⟨rfl, rfl⟩
    go_wp2
    go_ret
    exact ⟨rfl, rfl⟩
theorem Is_any (v g s : Int) (g0 : 0 ≤ g) (w : World) : Calls Tryd.prog 38 #[.int .u64 v, .int .u64 g, .int .i64 s] w fun e w' => e = .returned (.bool (isI v g s)) ∧ w = w' := by
  by_cases h : g ≤ 4294967295 ∧ 0 ≤ s ∧ s ≤ 4 ∧ v = stI g s
  · rw [show isI v g s = true from decide_eq_true h]; exact Is_yes v g s g0 h w
  · rw [show isI v g s = false from decide_eq_false h]; exact Is_no v g s g0 h w
end Go.Proofs.YtlegknboccbdpaaDoor.State
