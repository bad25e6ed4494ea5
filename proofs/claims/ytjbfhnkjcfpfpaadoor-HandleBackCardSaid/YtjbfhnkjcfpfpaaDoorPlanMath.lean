/- Plans in plain arithmetic, going round at 64 bits: where words are. No program is named. -/
import Derived.IntWalk
import Derived.Lib.Hide
namespace Go.Proofs.YtjbfhnkjcfpfpaaDoor.PM
open Go.RowKit

theorem wrap_off (x k : Int) : wrap64 (x - 18446744073709551616 * k) = wrap64 x := by unfold wrap64; omega
theorem wrap_is (a : Int) : ∃ k : Int, wrap64 a = a - 18446744073709551616 * k := ⟨(a + 9223372036854775808) / 18446744073709551616, by unfold wrap64; omega⟩
theorem w_w (a : Int) : wrap64 (wrap64 a) = wrap64 a := by unfold wrap64; omega
theorem add_l (a b : Int) : wrap64 (wrap64 a + b) = wrap64 (a + b) := by unfold wrap64; omega
theorem add_r (a b : Int) : wrap64 (a + wrap64 b) = wrap64 (a + b) := by unfold wrap64; omega
theorem sub_l (a b : Int) : wrap64 (wrap64 a - b) = wrap64 (a - b) := by unfold wrap64; omega
theorem sub_r (a b : Int) : wrap64 (a - wrap64 b) = wrap64 (a - b) := by unfold wrap64; omega
theorem mul_l (a b : Int) : wrap64 (wrap64 a * b) = wrap64 (a * b) := by
  obtain ⟨k, hk⟩ := wrap_is a
  rw [hk, Int.sub_mul, Int.mul_assoc, wrap_off]
theorem mul_r (a b : Int) : wrap64 (a * wrap64 b) = wrap64 (a * b) := by
  rw [Int.mul_comm, mul_l, Int.mul_comm]
theorem wrap_in {n : Int} (h : -9223372036854775808 ≤ n ∧ n ≤ 9223372036854775807) : wrap64 n = n := by unfold wrap64; omega

/-- Where the n-th row of the threads' words begins. -/
def rowI (T n : Int) : Int := wrap64 (4 + n * T)
/-- Where the k-th word of a slot is. -/
def atI (T L s k : Int) : Int := wrap64 (4 + 3 * T + L + (s - 1) * (6 + L) + k)
/-- Where the k-th word behind a row's first one is. -/
def ofI (T n k : Int) : Int := wrap64 (4 + n * T + k)
/-- Where a way on is. -/
def nextI (T L s k : Int) : Int := if s = 0 then ofI T 3 k else atI T L s (6 + k)
theorem next_zero (T L k : Int) : nextI T L 0 k = ofI T 3 k := if_pos rfl
theorem next_some {T L s k : Int} (h : ¬ s = 0) : nextI T L s k = atI T L s (6 + k) := if_neg h

theorem row_of (T n k : Int) : wrap64 (rowI T n + k) = ofI T n k := by unfold rowI ofI; rw [add_l]
theorem at_of (T L s k : Int) : wrap64 (atI T L s 0 + k) = atI T L s k := by unfold atI; rw [add_l, Int.add_zero]
theorem w_six (x k : Int) : wrap64 (wrap64 (wrap64 x + 6) + k) = wrap64 (x + (6 + k)) := by unfold wrap64; omega
theorem at_next (T L s k : Int) : wrap64 (wrap64 (atI T L s 0 + 6) + k) = atI T L s (6 + k) := by unfold atI; rw [w_six, Int.add_zero]
theorem at_wrap (T L s k : Int) : atI T L s (wrap64 k) = atI T L s k := by unfold atI; rw [add_r]
theorem first_of (T L s : Int) : wrap64 (wrap64 (rowI T 3 + L) + wrap64 (wrap64 (s - 1) * wrap64 (6 + L))) = atI T L s 0 := by
  unfold rowI atI
  rw [add_l, mul_l, mul_r, add_r, Int.add_assoc, add_l, Int.add_zero, ← Int.add_assoc]

/-! As the document's answer adds up. -/
theorem ref_pin (T t : Int) : wrap64 (4 + t) = ofI T 0 t := by unfold ofI; rw [Int.zero_mul, Int.add_zero]
theorem ref_sleep (T t : Int) : wrap64 (wrap64 (4 + T) + t) = ofI T 1 t := by unfold ofI; rw [add_l, Int.one_mul]
theorem ref_row (T n t : Int) : wrap64 (wrap64 (4 + wrap64 (n * T)) + t) = ofI T n t := by unfold ofI; rw [add_r, add_l]
theorem w_sum (a L m k : Int) : wrap64 (wrap64 (wrap64 (wrap64 (4 + wrap64 a) + L) + wrap64 m) + k) = wrap64 (4 + a + L + m + k) := by unfold wrap64; omega
theorem ref_slot (T L s k : Int) : wrap64 (wrap64 (wrap64 (wrap64 (4 + wrap64 (3 * T)) + L) + wrap64 (wrap64 (s - 1) * wrap64 (6 + L))) + k) = atI T L s k := by
  unfold atI
  rw [mul_l, mul_r, w_sum]

/-- Whether a plan is right. -/
def rightB (T S L G : Int) : Bool := decide (1 ≤ T ∧ T ≤ 8 ∧ 1 ≤ S ∧ S ≤ 64 ∧ 1 ≤ L ∧ L ≤ 8 ∧ G ≤ 4294967295)
theorem right_yes {T S L G : Int} (h : 1 ≤ T ∧ T ≤ 8 ∧ 1 ≤ S ∧ S ≤ 64 ∧ 1 ≤ L ∧ L ≤ 8 ∧ G ≤ 4294967295) : rightB T S L G = true := decide_eq_true h
theorem right_no {T S L G : Int} (h : ¬ (1 ≤ T ∧ T ≤ 8 ∧ 1 ≤ S ∧ S ≤ 64 ∧ 1 ≤ L ∧ L ≤ 8 ∧ G ≤ 4294967295)) : rightB T S L G = false := decide_eq_false h
theorem right_is {T S L G : Int} (h : rightB T S L G = true) : 1 ≤ T ∧ T ≤ 8 ∧ 1 ≤ S ∧ S ≤ 64 ∧ 1 ≤ L ∧ L ≤ 8 ∧ G ≤ 4294967295 := of_decide_eq_true h
theorem right_not {T S L G : Int} (h : rightB T S L G = false) : ¬ (1 ≤ T ∧ T ≤ 8 ∧ 1 ≤ S ∧ S ≤ 64 ∧ 1 ≤ L ∧ L ≤ 8 ∧ G ≤ 4294967295) := of_decide_eq_false h
end Go.Proofs.YtjbfhnkjcfpfpaaDoor.PM
