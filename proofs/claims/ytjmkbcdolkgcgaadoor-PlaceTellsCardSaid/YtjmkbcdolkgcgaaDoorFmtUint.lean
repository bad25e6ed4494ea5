/- strconv.FormatUint at base 10 and strconv.Itoa: the decimal numeral of any uint64, of any int: the first by a walk of the library's own text over the kit's contracts of what it calls; both leave what lay in memory ahead as it was. -/
import Derived.Test.YtjmkbcdolkgcgaaDoorStateShelf
import Derived.Test.YtjmkbcdolkgcgaaDoorRows
import Derived.Lib.AppendIntMem
import Derived.Lib.Walk
import Derived.WalkKit
import Derived.ProofKit
import Derived.Lib.Hide
import Derived.Test.YtjmkbcdolkgcgaaDoorStr
import Derived.Test.YtjmkbcdolkgcgaaDoorStateMath
namespace Go.Proofs.YtjmkbcdolkgcgaaDoor.Fmt
open Go.RowKit Go.Sort Go.Lib Str SM

/-- The library's table of powers of ten holds what its initialiser lays. -/
def Tens (w : World) : Prop := Lib.TabIs Tryd.prog w "internal/strconv.uint64pow10" .u64 Lib.pow10Tab




theorem Itoa_any (n : Int) (h0 : 0 ≤ n) (h1 : n ≤ 9223372036854775807) (w : World) (htab : Tens w) :
    Calls Tryd.prog 23 #[.int .i64 n] w fun e w' => e = .returned (.string (bs (decI n))) ∧ Below w.heap.size w w' := by
  obtain ⟨n, rfl⟩ := Int.eq_ofNat_of_zero_le h0
  exact (Any.strconv_Itoa Tryd.laysM171 n (by omega) h1 w htab).mono fun _ _ h => by
    obtain ⟨h, k, os, rfl⟩ := h
    exact ⟨by rw [h, Lib.itoa_nonneg]; rfl, Lib.below_grow _ _ (Nat.le_refl _) _ _⟩
end Go.Proofs.YtjmkbcdolkgcgaaDoor.Fmt
