/- The examples of chapter 1, as the statements of layer 1 hold them: they come out true; no call turns the world. -/
import Derived.Test.YtlahojinplmojaaFieldWalks
namespace Go.Proofs.Ytlahojinplmojaa.Law01
open Go.ChangeShapes Go.WideShapes Go.ChangeAt Go.RowKit FM
open Go.Proofs.Ytlahojinplmojaa.Field (ret_u64 ret_bool)

theorem wf_u64 {a : Int} (h : (Lit.int .u64 a).wf = true) : 0 ≤ a ∧ a < 18446744073709551616 := by
  simp [Lit.wf, IntKind.min, IntKind.max, IntKind.signed, IntKind.bits] at h; omega
theorem wf_i64 {a : Int} (h : (Lit.int .i64 a).wf = true) : -9223372036854775808 ≤ a ∧ a ≤ 9223372036854775807 := by
  simp [Lit.wf, IntKind.min, IntKind.max, IntKind.signed, IntKind.bits] at h; omega

theorem awake_any (w : World) :
    Calls Try.prog 12 #[] w fun e w' => e = .returned (.bool true) ∧ w = w' := by
  have E1 := Lib.hid (show getI 43776 8 8 = 171 from by decide)
  have E2 := Lib.hid (show putI 65535 4 4 18 = 65327 from by decide)
  go_enter Try.func12, Try.ntmps12
  go_wp2_with fail
  refine (Field.Get_any _ _ _ (by decide) (by decide) (by decide) _).mono ?_
  rintro e w' ⟨rfl, rfl⟩
  rw [E1.out]
  go_wp2_with fail
  refine (Field.Put_any _ _ _ _ (by decide) (by decide) (by decide) (by decide) _).mono ?_
  rintro e w' ⟨rfl, rfl⟩
  rw [E2.out]
  go_wp2_with fail
  refine (Field.Pair_any _ _ (by decide) (by decide) (by decide) _).mono ?_
  rintro e w' ⟨rfl, rfl⟩
  go_wp2
  go_ret
  exact ⟨rfl, rfl⟩
end Go.Proofs.Ytlahojinplmojaa.Law01
