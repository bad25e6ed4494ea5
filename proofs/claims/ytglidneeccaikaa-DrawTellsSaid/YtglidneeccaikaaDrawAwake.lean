/- Law 05's examples. -/
import Derived.Test.YtglidneeccaikaaDrawWalks
namespace Go.Proofs.Ytglidneeccaikaa.Law05
open Go.ChangeShapes Go.WideShapes Go.RowKit DM Lay Draw

theorem wf_u64 {a : Int} (h : (Lit.int .u64 a).wf = true) : 0 ≤ a ∧ a < 18446744073709551616 := by
  simp [Lit.wf, IntKind.min, IntKind.max, IntKind.signed, IntKind.bits] at h; omega
theorem wf_i64 {a : Int} (h : (Lit.int .i64 a).wf = true) : -9223372036854775808 ≤ a ∧ a ≤ 9223372036854775807 := by
  simp [Lit.wf, IntKind.min, IntKind.max, IntKind.signed, IntKind.bits] at h; omega

theorem ones_0 : ones 0 = 0 := ones_even (by decide)
theorem ones_1 : ones 1 = 1 := by rw [ones_odd (by decide), show (1 : Nat) / 2 = 0 by decide, ones_0]
theorem ones_3 : ones 3 = 2 := by rw [ones_odd (by decide), show (3 : Nat) / 2 = 1 by decide, ones_1]
theorem ones_7 : ones 7 = 3 := by rw [ones_odd (by decide), show (7 : Nat) / 2 = 3 by decide, ones_3]
theorem ones_15 : ones 15 = 4 := by rw [ones_odd (by decide), show (15 : Nat) / 2 = 7 by decide, ones_7]
theorem ones_31 : ones 31 = 5 := by rw [ones_odd (by decide), show (31 : Nat) / 2 = 15 by decide, ones_15]
theorem ones_2 : ones 2 = 0 := ones_even (by decide)
theorem ones_5 : ones 5 = 1 := by rw [ones_odd (by decide), show (5 : Nat) / 2 = 2 by decide, ones_2]
theorem ones_11 : ones 11 = 2 := by rw [ones_odd (by decide), show (11 : Nat) / 2 = 5 by decide, ones_5]

theorem awake_any (w : World) : Calls Try.prog 5 #[] w fun e w' => e = .returned (.bool true) ∧ w = w' := by
  have H1 := Lib.hid (show heightI 0 4 = 1 by simp [heightI, onesI, ones_0])
  have H2 := Lib.hid (show heightI 1 4 = 2 by simp [heightI, onesI, ones_1])
  have H3 := Lib.hid (show heightI 11 4 = 3 by simp [heightI, onesI, ones_11])
  have H4 := Lib.hid (show heightI 31 4 = 4 by simp [heightI, onesI, ones_31])
  have H5 := Lib.hid (show heightI 3 0 = 0 by simp [heightI])
  go_enter Try.func5, Try.ntmps5
  go_wp2_with fail
  refine (Height_is H1.out (by decide) (by decide) _).mono ?_
  rintro e w' ⟨rfl, rfl⟩
  go_wp2_with fail
  refine (Height_is H2.out (by decide) (by decide) _).mono ?_
  rintro e w' ⟨rfl, rfl⟩
  go_wp2_with fail
  refine (Height_is H3.out (by decide) (by decide) _).mono ?_
  rintro e w' ⟨rfl, rfl⟩
  go_wp2_with fail
  refine (Height_is H4.out (by decide) (by decide) _).mono ?_
  rintro e w' ⟨rfl, rfl⟩
  go_wp2_with fail
  refine (Height_is H5.out (by decide) (by decide) _).mono ?_
  rintro e w' ⟨rfl, rfl⟩
  go_wp2
  go_ret
  exact ⟨rfl, rfl⟩
end Go.Proofs.Ytglidneeccaikaa.Law05
