import Derived.Test.YtlagghghbpbcbaaGreatDoorStartComesAllP1
import Derived.Test.YtlagghghbpbcbaaGreatDoorStartComesAllP5
import Derived.IntWalk
/- Package handle: the handle of a reference. -/
namespace Go.Proofs.YtlagghghbpbcbaaGreatDoor.Handle
set_option maxRecDepth 20000
open Go.ChangeShapes Go.WideShapes Go.RowKit KM WaM
open ClM (genI)
set_option linter.unusedVariables false
set_option linter.unusedSimpArgs false
theorem Of_any {r : Int} (hr : 0 ≤ r ∧ r < 18446744073709551616) (w : World) : Calls Tryz.prog 80 #[.int .u64 r] w fun e w' => e = .returned (.int .u64 (handI r)) ∧ w = w' := by
  have hg : 0 ≤ genI r := by unfold genI; omega
  have hi : 0 ≤ idx r ∧ idx r ≤ 2147483647 := by unfold idx; omega
  have HE := Lib.hid (show genI r % 4294967296 * 4294967296 + idx r % 4294967296 = handI r by unfold handI genI idx; omega)
  have hu : IntKind.u64.wrap (idx r) = idx r := IntWalk.u64_in _ (by omega)
  have HG := Lib.hid fun W => Refer.Gen_any r hr.1 hr.2 W
  have HI := Lib.hid fun W => Refer.Index_any r hr.1 hr.2 W
  have HP := Lib.hid fun W => Field.Pair_any (genI r) (idx r) hg hi.1 (by omega) W
  rw [HE.out] at HP
  rw [show r / 4294967296 = genI r from rfl] at HG
  rw [show r % 4294967296 / 2 = idx r from rfl] at HI
  generalize genI r = g at HG HP
  generalize idx r = i at HI HP hu
  clear hr hg hi HE
  go_enter Tryz.func80, Tryz.ntmps80
  go_wp2_with fail
  refine (HG.out _).mono ?_
  rintro e w' ⟨rfl, rfl⟩
  go_wp2_with fail
  refine (HI.out _).mono ?_
  rintro e w' ⟨rfl, rfl⟩
  go_wp2_with fail
  refine (HP.out _).mono ?_
  rintro e w' ⟨rfl, rfl⟩
  go_wp2
  go_ret
  exact ⟨rfl, rfl⟩
end Go.Proofs.YtlagghghbpbcbaaGreatDoor.Handle
