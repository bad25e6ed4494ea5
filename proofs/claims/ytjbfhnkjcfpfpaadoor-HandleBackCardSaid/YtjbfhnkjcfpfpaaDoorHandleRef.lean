/- The document's Handle (package sundialref26): a reference's handle. -/
import Derived.Test.YtjbfhnkjcfpfpaaDoorWalkMath
import Derived.Test.YtjbfhnkjcfpfpaaDoorReferRef
import Derived.Test.YtjbfhnkjcfpfpaaDoorRef01
namespace Go.Proofs.YtjbfhnkjcfpfpaaDoor.HandleRef
set_option maxRecDepth 20000
open Go.ChangeShapes Go.WideShapes Go.ChangeAt Go.RowKit KM WaM
open ClM (genI)
set_option linter.unusedVariables false
set_option linter.unusedSimpArgs false
theorem Handle_any {r : Int} (hr : 0 ≤ r ∧ r < 18446744073709551616) (w : World) : Calls Tryd.prog 26 #[.int .u64 r] w fun e w' => e = .returned (.int .u64 (handI r)) ∧ w = w' := by
  have hg : 0 ≤ genI r := by unfold genI; omega
  have hi : 0 ≤ idx r := by unfold idx; omega
  have HE := Lib.hid (show genI r % 4294967296 * 4294967296 + IntKind.u64.wrap (idx r) % 4294967296 = handI r by rw [IntKind.wrap_u64]; unfold handI genI idx; omega)
  have HU := Lib.hid (show 0 ≤ IntKind.u64.wrap (idx r) by rw [IntKind.wrap_u64]; omega)
  have HG := Lib.hid fun W => Ref02.Gen_any r hr.1 hr.2 W
  have HI := Lib.hid fun W => Ref02.Index_any r hr.1 hr.2 W
  have HP := Lib.hid fun W => R01.Pair_any (genI r) (IntKind.u64.wrap (idx r)) hg HU.out W
  rw [HE.out] at HP
  rw [show r / 4294967296 = genI r from rfl] at HG
  rw [show r % 4294967296 / 2 = idx r from rfl] at HI
  generalize genI r = g at HG HP
  generalize idx r = i at HI HP HU
  clear hr hg hi HE
  go_enter Tryd.func26, Tryd.ntmps26
  go_wp2_with fail
  refine (HG.out _).mono ?_
  rintro e w' ⟨rfl, rfl⟩
  go_wp2_with fail
  refine (HI.out _).mono ?_
  rintro e w' ⟨rfl, rfl⟩
  go_wp2_with fail
  refine (HP.out _).mono ?_
  rintro e w' ⟨rfl, rfl⟩
  go_wp2
  go_ret
  exact ⟨rfl, rfl⟩
end Go.Proofs.YtjbfhnkjcfpfpaaDoor.HandleRef
