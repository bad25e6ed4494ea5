/- The examples of chapter 2, as the statements of layer 2 hold them: they come out true; no call turns the world. -/
import Derived.Test.YtbclgjobleibpaaReferWalks
namespace Go.Proofs.Ytbclgjobleibpaa.Law02
open Go.ChangeShapes Go.WideShapes Go.ChangeAt Go.RowKit FM RM

theorem wf_u64 {a : Int} (h : (Lit.int .u64 a).wf = true) : 0 ≤ a ∧ a < 18446744073709551616 := by
  simp [Lit.wf, IntKind.min, IntKind.max, IntKind.signed, IntKind.bits] at h; omega
theorem wf_i64 {a : Int} (h : (Lit.int .i64 a).wf = true) : -9223372036854775808 ≤ a ∧ a ≤ 9223372036854775807 := by
  simp [Lit.wf, IntKind.min, IntKind.max, IntKind.signed, IntKind.bits] at h; omega

theorem awake_any (w : World) :
    Calls Try.prog 20 #[] w fun e w' => e = .returned (.bool true) ∧ w = w' := by
  have E1 := Lib.hid (show ofI 3 5 = 12884901898 from by decide)
  go_enter Try.func20, Try.ntmps20
  go_wp2_with fail
  refine (Refer.Of_any 3 5 (by decide) _).mono ?_
  rintro e w' ⟨rfl, rfl⟩
  rw [E1.out]
  go_wp2_with fail
  refine (Refer.Mark_any _ (by decide) (by decide) _).mono ?_
  rintro e w' ⟨rfl, rfl⟩
  go_wp2_with fail
  refine (Refer.Index_any _ (by decide) (by decide) _).mono ?_
  rintro e w' ⟨rfl, rfl⟩
  go_wp2_with fail
  refine (Refer.None_any _ (by decide) (by decide) _).mono ?_
  rintro e w' ⟨rfl, rfl⟩
  go_wp2
  go_ret
  exact ⟨rfl, rfl⟩
end Go.Proofs.Ytbclgjobleibpaa.Law02
