/- Deeds whose numbers are those of Go's kinds. No program is named. -/
import Derived.Test.YtjbfhnkjcfpfpaaDoorDeedMath
namespace Go.Proofs.YtjbfhnkjcfpfpaaDoor.DM
/-- What a deed's numbers are. -/
def Fits (x : D) : Prop := (-9223372036854775808 ≤ x.2.1 ∧ x.2.1 ≤ 9223372036854775807) ∧ (0 ≤ x.2.2.1 ∧ x.2.2.1 < 18446744073709551616) ∧ (0 ≤ x.2.2.2.1 ∧ x.2.2.2.1 < 18446744073709551616) ∧ 0 ≤ x.2.2.2.2 ∧ x.2.2.2.2 < 18446744073709551616
theorem fits_kind {k k' i a b y : Int} (h : Fits (k, i, a, b, y)) : Fits (k', i, a, b, y) := h
end Go.Proofs.YtjbfhnkjcfpfpaaDoor.DM
