/- The functions of package draw (layer 5), each held to plain arithmetic: what each call returns, at every number, list and count of levels; what lay in memory ahead stays as it was. -/
import Derived.Test.YtelnkbikgboblaaDoorRows
import Derived.Test.YtelnkbikgboblaaDoorInts
import Derived.Test.YtelnkbikgboblaaDoorDrawMath
import Derived.WalkKit
import Derived.ProofKit
import Derived.Lib.Hide
import Derived.Lib.MinMax
import Derived.Deep.RegionHeld3
namespace Go.Proofs.YtelnkbikgboblaaDoor.Draw
set_option maxRecDepth 20000
open Go.ChangeShapes Go.WideShapes Go.RowKit DM Lay Ints

theorem ret_i64 {a b : Int} (h : a = b) : Ending.returned (.int .i64 a) = .returned (.int .i64 b) := by rw [h]
theorem ret_bool {a b : Bool} (h : a = b) : Ending.returned (.bool a) = .returned (.bool b) := by rw [h]
theorem mixed : Tryd.prog.follows .mixedOrders = true := by kernel_rfl

theorem and_one (x : Int) (h0 : 0 ≤ x) (h1 : x < 18446744073709551616) : bits .and .u64 x 1 = x % 2 := by
  obtain ⟨n, rfl⟩ := Int.eq_ofNat_of_zero_le h0
  have h := u64_and_nat n 1 (by omega) (by decide)
  rw [Nat.and_one_is_mod] at h
  simpa using h


/-- A new list of integers: its value, what it holds, and that nothing else has turned. -/
def Lists (w : World) (l : List Int) (e : Ending) (w' : World) : Prop := ∃ (A : Option Addr) (c : Nat), e = .returned (.slice A l.length c) ∧ Row w' w'.heap.size A (flat (encZ .i64) l) ∧ Below w.heap.size w w'
/-- The numbers of a list fit. -/
def Fits (l : List Int) : Prop := ∀ v ∈ l, 0 ≤ v ∧ v < 18446744073709551616


end Go.Proofs.YtelnkbikgboblaaDoor.Draw
