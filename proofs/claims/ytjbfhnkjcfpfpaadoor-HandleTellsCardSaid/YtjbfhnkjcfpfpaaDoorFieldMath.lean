/- Plain arithmetic of fields of 64-bit words: what a field is, what a word is with a number put into a field, bit by bit. No program is spoken of here. -/
import Derived.WalkKit
namespace Go.Proofs.YtjbfhnkjcfpfpaaDoor.FM

/-- The word that is 1 at the b bits from a on. -/
def maskN (a b : Nat) : Nat := 2 ^ a * (2 ^ b - 1)
/-- The field of b bits from a on. -/
def getN (w a b : Nat) : Nat := w / 2 ^ a % 2 ^ b
/-- w with the lowest b bits of n as that field. -/
def putN (w a b n : Nat) : Nat := 2 ^ a * (2 ^ b * (w / 2 ^ (a + b)) + n % 2 ^ b) + w % 2 ^ a
/-- Is there such a field? -/
def isB (a b : Int) : Bool := decide (0 ≤ a) && decide (1 ≤ b) && decide (b ≤ 64 - a)
def getI (w a b : Int) : Int := if isB a b then ((getN w.toNat a.toNat b.toNat : Nat) : Int) else 0
def putI (w a b n : Int) : Int := if isB a b then ((putN w.toNat a.toNat b.toNat n.toNat : Nat) : Int) else w

theorem isB_true {a b : Int} (h0 : 0 ≤ a) (h1 : 1 ≤ b) (h2 : b ≤ 64 - a) : isB a b = true := by simp [isB, h0, h1, h2]
theorem isB_out {a b : Int} (h : isB a b = true) : 0 ≤ a ∧ 1 ≤ b ∧ b ≤ 64 - a := by
  simp [isB] at h; omega
theorem isB_false {a b : Int} (h : ¬ (0 ≤ a ∧ 1 ≤ b ∧ b ≤ 64 - a)) : isB a b = false := by
  cases e : isB a b
  · rfl
  · exact absurd (isB_out e) h

theorem maskN_bit (a b i : Nat) : (maskN a b).testBit i = (decide (a ≤ i) && decide (i < a + b)) := by
  unfold maskN
  rw [Nat.testBit_two_pow_mul, Nat.testBit_two_pow_sub_one, Bool.eq_iff_iff]
  simp; omega
theorem getN_bit (w a b i : Nat) : (getN w a b).testBit i = (decide (i < b) && w.testBit (i + a)) := by
  unfold getN
  rw [Nat.testBit_mod_two_pow, Nat.testBit_div_two_pow]
theorem putN_bit (w a b n i : Nat) : (putN w a b n).testBit i = if decide (a ≤ i) && decide (i < a + b) then n.testBit (i - a) else w.testBit i := by
  unfold putN
  rw [Nat.testBit_two_pow_mul_add _ (Nat.mod_lt _ (Nat.two_pow_pos a)), Nat.testBit_two_pow_mul_add _ (Nat.mod_lt _ (Nat.two_pow_pos b)), Nat.testBit_mod_two_pow, Nat.testBit_mod_two_pow, Nat.testBit_div_two_pow]
  by_cases h1 : i < a
  · simp [h1, Nat.not_le.2 h1]
  · by_cases h2 : i - a < b
    · simp [h1, h2, Nat.not_lt.1 h1, show i < a + b by omega]
    · simp [h1, h2, show ¬ i < a + b by omega, show i - a - b + (a + b) = i by omega]
theorem getN_lt (w a b : Nat) : getN w a b < 2 ^ b := Nat.mod_lt _ (Nat.two_pow_pos b)
theorem pow_le64 {b : Nat} (h : b ≤ 64) : 2 ^ b ≤ 18446744073709551616 := Nat.pow_le_pow_right (by decide) h
theorem getN_lt64 (w a b : Nat) (h : b ≤ 64) : getN w a b < 18446744073709551616 := Nat.lt_of_lt_of_le (getN_lt w a b) (pow_le64 h)
theorem maskN_lt (a b : Nat) (h : a + b ≤ 64) : maskN a b < 18446744073709551616 := by
  refine Nat.lt_pow_two_of_testBit (n := 64) _ fun i hi => ?_
  rw [maskN_bit]
  have : ¬ i < a + b := by omega
  simp [this]
theorem putN_lt (w a b n : Nat) (hw : w < 18446744073709551616) (h : a + b ≤ 64) : putN w a b n < 18446744073709551616 := by
  refine Nat.lt_pow_two_of_testBit (n := 64) _ fun i hi => ?_
  rw [putN_bit]
  have h1 : ¬ i < a + b := by omega
  simp only [h1, decide_false, Bool.and_false]
  exact Nat.testBit_lt_two_pow (Nat.lt_of_lt_of_le hw (Nat.pow_le_pow_right (n := 2) (by decide) hi))

/-- All ones, shifted right by c. -/
theorem ones_shr (c : Nat) (h : c ≤ 64) : (18446744073709551615 : Nat) / 2 ^ c = 2 ^ (64 - c) - 1 := by
  apply Nat.eq_of_testBit_eq
  intro i
  rw [Nat.testBit_div_two_pow, Nat.testBit_two_pow_sub_one, show (18446744073709551615 : Nat) = 2 ^ 64 - 1 from rfl, Nat.testBit_two_pow_sub_one]
  congr 1
  simp; omega
theorem mask_low (a b : Nat) (h : a + b ≤ 64) : (18446744073709551615 : Nat) / 2 ^ (64 - a - b) / 2 ^ a * 2 ^ a = maskN a b := by
  rw [ones_shr _ (by omega)]
  apply Nat.eq_of_testBit_eq
  intro i
  rw [maskN_bit, Nat.mul_comm, Nat.testBit_two_pow_mul, Nat.testBit_div_two_pow, Nat.testBit_two_pow_sub_one, Bool.eq_iff_iff]
  simp; omega
theorem mask_high (a b : Nat) (h : a + b = 64) : (18446744073709551615 : Nat) / 2 ^ a * 2 ^ a = maskN a b := by
  have := mask_low a b (by omega)
  rwa [show 64 - a - b = 0 by omega, Nat.pow_zero, Nat.div_one] at this
theorem mask_all : (18446744073709551615 : Nat) = maskN 0 64 := by decide

theorem and_mask_shr (w a b : Nat) : (w &&& maskN a b) / 2 ^ a = getN w a b := by
  apply Nat.eq_of_testBit_eq
  intro i
  rw [Nat.testBit_div_two_pow, Nat.testBit_and, maskN_bit, getN_bit]
  by_cases h : i < b
  · simp [h, show i + a < a + b by omega]
  · simp [h, show ¬ i + a < a + b by omega]
/-- The word that Put makes by masks. -/
theorem put_mask (w a b n : Nat) (hw : w < 18446744073709551616) (h : a + b ≤ 64) :
    (w &&& (18446744073709551615 - maskN a b)) ||| ((n * 2 ^ a % 18446744073709551616) &&& maskN a b) = putN w a b n := by
  apply Nat.eq_of_testBit_eq
  intro i
  have hm := maskN_lt a b h
  have e : (18446744073709551615 - maskN a b).testBit i = (decide (i < 64) && !(maskN a b).testBit i) := by
    rw [show (18446744073709551615 : Nat) - maskN a b = 2 ^ 64 - (maskN a b + 1) by omega]
    exact Nat.testBit_two_pow_sub_succ (n := 64) hm i
  rw [Nat.testBit_or, Nat.testBit_and, Nat.testBit_and, e, show (18446744073709551616 : Nat) = 2 ^ 64 from rfl, Nat.testBit_mod_two_pow, Nat.mul_comm n, Nat.testBit_two_pow_mul, maskN_bit, putN_bit]
  by_cases h1 : a ≤ i
  · by_cases h2 : i < a + b
    · have : i < 64 := by omega
      simp [h1, h2, this]
    · by_cases h3 : i < 64
      · simp [h2, h3]
      · have : w.testBit i = false := Nat.testBit_lt_two_pow (Nat.lt_of_lt_of_le hw (Nat.pow_le_pow_right (n := 2) (by decide) (Nat.not_lt.1 h3)))
        simp [h2, this]
  · have : i < 64 := by omega
    simp [h1, this]

/-! bit by bit -/
def bitN (w k : Nat) : Nat := w / 2 ^ k % 2
theorem bitN_testBit (w k : Nat) : bitN w k = (w.testBit k).toNat := (Nat.toNat_testBit w k).symm
theorem bitN_lt (w k : Nat) : bitN w k < 2 := Nat.mod_lt _ (by decide)
/-- One bit more at the lower end. -/
theorem get_step (w a j b : Nat) (h : j < b) : getN w (a + j) (b - j) = 2 * getN w (a + (j + 1)) (b - (j + 1)) + bitN w (a + j) := by
  unfold getN bitN
  rw [show 2 ^ (b - j) = 2 * 2 ^ (b - (j + 1)) by rw [show b - j = (b - (j + 1)).succ by omega, Nat.pow_succ'], Nat.mod_mul, Nat.div_div_eq_div_mul, ← Nat.pow_succ]
  rw [show (a + j).succ = a + (j + 1) by omega]; omega
theorem get_none (w a b : Nat) : getN w (a + b) (b - b) = 0 := by unfold getN; rw [Nat.sub_self, Nat.pow_zero, Nat.mod_one]
theorem shr_step (r k : Nat) : r / 2 ^ k = 2 * (r / 2 ^ (k + 1)) + bitN r k := by
  unfold bitN
  rw [Nat.pow_succ, ← Nat.div_div_eq_div_mul]; omega
theorem put_bit_in (w a b n k : Nat) (h1 : a ≤ k) (h2 : k < a + b) : bitN (putN w a b n) k = bitN n (k - a) := by
  rw [bitN_testBit, bitN_testBit, putN_bit, if_pos (by simp [h1, h2])]
theorem put_bit_out (w a b n k : Nat) (h : k < a ∨ a + b ≤ k) : bitN (putN w a b n) k = bitN w k := by
  rw [bitN_testBit, bitN_testBit, putN_bit, if_neg (by simp; omega)]

/-! what is put is got -/
theorem get_put (w a b n : Nat) : getN (putN w a b n) a b = n % 2 ^ b := by
  apply Nat.eq_of_testBit_eq
  intro i
  rw [getN_bit, putN_bit, Nat.testBit_mod_two_pow]
  by_cases h : i < b
  · simp [h, show i + a < a + b by omega]
  · simp [h]
theorem get_put_apart (w a b n c d : Nat) (h : c + d ≤ a ∨ a + b ≤ c) : getN (putN w a b n) c d = getN w c d := by
  apply Nat.eq_of_testBit_eq
  intro i
  rw [getN_bit, getN_bit, putN_bit]
  by_cases hi : i < d
  · rw [if_neg (by simp; omega)]
  · simp [hi]
theorem put_get (w a b : Nat) : putN w a b (getN w a b) = w := by
  apply Nat.eq_of_testBit_eq
  intro i
  rw [putN_bit, getN_bit]
  by_cases h : a ≤ i ∧ i < a + b
  · rw [if_pos (by simp [h]), show i - a + a = i by omega]; simp; omega
  · rw [if_neg (by simp; omega)]

/-! the halves -/
theorem get_high (w : Nat) (h : w < 18446744073709551616) : getN w 32 32 = w / 4294967296 := by
  unfold getN; omega
theorem get_low (w : Nat) : getN w 0 32 = w % 4294967296 := by
  unfold getN; omega
theorem put_high (l h : Nat) (hl : l < 18446744073709551616) : putN l 32 32 h = h % 4294967296 * 4294967296 + l % 4294967296 := by
  unfold putN; omega
theorem pair_halves (w : Nat) (h : w < 18446744073709551616) : w / 4294967296 % 4294967296 * 4294967296 + w % 4294967296 % 4294967296 = w := by omega
end Go.Proofs.YtjbfhnkjcfpfpaaDoor.FM
