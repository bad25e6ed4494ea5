/- Plain arithmetic of references: which numbers the fields of a reference are, in sums, quotients and remainders. No program is spoken of here. -/
import Derived.Test.YtjbfhnkjcfpfpaaDoorFieldMath
namespace Go.Proofs.YtjbfhnkjcfpfpaaDoor.RM
open FM

/-- The reference of a generation and an index, without a mark. -/
def ofI (g i : Int) : Int := if g ≤ 4294967295 ∧ 1 ≤ i ∧ i ≤ 2147483647 then g * 4294967296 + i * 2 else 0
theorem ofI_yes {g i : Int} (h : g ≤ 4294967295 ∧ 1 ≤ i ∧ i ≤ 2147483647) : ofI g i = g * 4294967296 + i * 2 := if_pos h
theorem ofI_no {g i : Int} (h : ¬ (g ≤ 4294967295 ∧ 1 ≤ i ∧ i ≤ 2147483647)) : ofI g i = 0 := if_neg h

theorem get_index (v : Int) (h0 : 0 ≤ v) : getI v 1 31 = v % 4294967296 / 2 := by
  obtain ⟨v, rfl⟩ := Int.eq_ofNat_of_zero_le h0
  show (if isB 1 31 then _ else _) = _
  rw [if_pos (by decide)]
  show ((getN v 1 31 : Nat) : Int) = _
  unfold getN; omega
theorem get_mark (v : Int) (h0 : 0 ≤ v) : getI v 0 1 = v % 2 := by
  obtain ⟨v, rfl⟩ := Int.eq_ofNat_of_zero_le h0
  show (if isB 0 1 then _ else _) = _
  rw [if_pos (by decide)]
  show ((getN v 0 1 : Nat) : Int) = _
  unfold getN; omega
theorem put_one (v : Int) (h0 : 0 ≤ v) : putI v 0 1 1 = v - v % 2 + 1 := by
  obtain ⟨v, rfl⟩ := Int.eq_ofNat_of_zero_le h0
  show (if isB 0 1 then _ else _) = _
  rw [if_pos (by decide)]
  show ((putN v 0 1 1 : Nat) : Int) = _
  unfold putN; omega
theorem put_zero (v : Int) (h0 : 0 ≤ v) : putI v 0 1 0 = v - v % 2 := by
  obtain ⟨v, rfl⟩ := Int.eq_ofNat_of_zero_le h0
  show (if isB 0 1 then _ else _) = _
  rw [if_pos (by decide)]
  show ((putN v 0 1 0 : Nat) : Int) = _
  unfold putN; omega
theorem put_index (g i : Int) (g0 : 0 ≤ g) (g1 : g ≤ 4294967295) (i1 : 1 ≤ i) (i2 : i ≤ 2147483647) :
    putI (g * 4294967296) 1 31 i = g * 4294967296 + i * 2 := by
  obtain ⟨g, rfl⟩ := Int.eq_ofNat_of_zero_le g0
  obtain ⟨i, rfl⟩ := Int.eq_ofNat_of_zero_le (a := i) (by omega)
  rw [show ((g : Int) * 4294967296) = ((g * 4294967296 : Nat) : Int) by omega]
  show (if isB 1 31 then _ else _) = _
  rw [if_pos (by decide)]
  show ((putN (g * 4294967296) 1 31 i : Nat) : Int) = _
  unfold putN; omega
theorem pair_zero (g : Int) (g0 : 0 ≤ g) (g1 : g ≤ 4294967295) : g % 4294967296 * 4294967296 + 0 % 4294967296 = g * 4294967296 := by omega
end Go.Proofs.YtjbfhnkjcfpfpaaDoor.RM
