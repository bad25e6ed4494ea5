/- Law 03's examples. -/
import Derived.Test.YthbdhohbdidcnaaOrderWalks
namespace Go.Proofs.Ythbdhohbdidcnaa.Law03
open Go.ChangeShapes Go.WideShapes Go.RowKit Go.Sort OM Lay Order

theorem awake_any (w : World) : Calls Try.prog 6 #[] w fun e w' => e = .returned (.bool true) ∧ Below w.heap.size w w' := by
  have H1 := Lib.hid (show cmpK (5, 9) (6, 0) = -1 by decide)
  have H2 := Lib.hid (show cmpK (5, 9) (5, 8) = 1 by decide)
  go_enter Try.func6, Try.ntmps6
  go_wp2_with fail
  refine (Cmp_is (x := (5, 9)) (y := (6, 0)) H1.out _).mono ?_
  rintro e w' ⟨rfl, hb1⟩
  go_wp2_with fail
  refine (Cmp_is (x := (5, 9)) (y := (5, 8)) H2.out _).mono ?_
  rintro e w' ⟨rfl, hb2⟩
  go_wp2
  go_ret
  exact ⟨rfl, hb1.trans (hb2.mono hb1.size)⟩
end Go.Proofs.Ythbdhohbdidcnaa.Law03
