import Derived.WalkKit
/- Plain arithmetic of fields of 64-bit words: what a field is, what a word is with a number put into a field, bit by bit. No program is spoken of here. -/
namespace Go.Proofs.YtlagghghbpbcbaaGreatDoor.FM

/-- The word that is 1 at the b bits from a on. -/
def maskN (a b : Nat) : Nat := 2 ^ a * (2 ^ b - 1)
/-- The field of b bits from a on. -/
def getN (w a b : Nat) : Nat := w / 2 ^ a % 2 ^ b
/-- w with the lowest b bits of n as that field. -/
def putN (w a b n : Nat) : Nat := 2 ^ a * (2 ^ b * (w / 2 ^ (a + b)) + n % 2 ^ b) + w % 2 ^ a
/-- Is there such a field? -/
def isB (a b : Int) : Bool := decide (0 ≤ a) && decide (1 ≤ b) && decide (b ≤ 64 - a)
def getI (w a b : Int) : Int := if isB a b then ((getN w.toNat a.toNat b.toNat : Nat) : Int) else 0
def putI (w a b n : Int) : Int := if isB a b then ((putN w.toNat a.toNat b.toNat n.toNat : Nat) : Int) else w

theorem isB_true {a b : Int} (h0 : 0 ≤ a) (h1 : 1 ≤ b) (h2 : b ≤ 64 - a) : isB a b = true := by simp [isB, h0, h1, h2]
theorem isB_out {a b : Int} (h : isB a b = true) : 0 ≤ a ∧ 1 ≤ b ∧ b ≤ 64 - a := by
  simp [isB] at h; omega
theorem maskN_bit (a b i : Nat) : (maskN a b).testBit i = (decide (a ≤ i) && decide (i < a + b)) := by
  unfold maskN
  rw [Nat.testBit_two_pow_mul, Nat.testBit_two_pow_sub_one, Bool.eq_iff_iff]
  simp; omega
theorem getN_bit (w a b i : Nat) : (getN w a b).testBit i = (decide (i < b) && w.testBit (i + a)) := by
  unfold getN
  rw [Nat.testBit_mod_two_pow, Nat.testBit_div_two_pow]
theorem putN_bit (w a b n i : Nat) : (putN w a b n).testBit i = if decide (a ≤ i) && decide (i < a + b) then n.testBit (i - a) else w.testBit i := by
  unfold putN
  rw [Nat.testBit_two_pow_mul_add _ (Nat.mod_lt _ (Nat.two_pow_pos a)), Nat.testBit_two_pow_mul_add _ (Nat.mod_lt _ (Nat.two_pow_pos b)), Nat.testBit_mod_two_pow, Nat.testBit_mod_two_pow, Nat.testBit_div_two_pow]
  by_cases h1 : i < a
  · simp [h1, Nat.not_le.2 h1]
  · by_cases h2 : i - a < b
    · simp [h1, h2, Nat.not_lt.1 h1, show i < a + b by omega]
    · simp [h1, h2, show ¬ i < a + b by omega, show i - a - b + (a + b) = i by omega]
theorem maskN_lt (a b : Nat) (h : a + b ≤ 64) : maskN a b < 18446744073709551616 := by
  refine Nat.lt_pow_two_of_testBit (n := 64) _ fun i hi => ?_
  rw [maskN_bit]
  have : ¬ i < a + b := by omega
  simp [this]
/-- All ones, shifted right by c. -/
theorem ones_shr (c : Nat) (h : c ≤ 64) : (18446744073709551615 : Nat) / 2 ^ c = 2 ^ (64 - c) - 1 := by
  apply Nat.eq_of_testBit_eq
  intro i
  rw [Nat.testBit_div_two_pow, Nat.testBit_two_pow_sub_one, show (18446744073709551615 : Nat) = 2 ^ 64 - 1 from rfl, Nat.testBit_two_pow_sub_one]
  congr 1
  simp; omega
theorem mask_low (a b : Nat) (h : a + b ≤ 64) : (18446744073709551615 : Nat) / 2 ^ (64 - a - b) / 2 ^ a * 2 ^ a = maskN a b := by
  rw [ones_shr _ (by omega)]
  apply Nat.eq_of_testBit_eq
  intro i
  rw [maskN_bit, Nat.mul_comm, Nat.testBit_two_pow_mul, Nat.testBit_div_two_pow, Nat.testBit_two_pow_sub_one, Bool.eq_iff_iff]
  simp; omega
theorem mask_high (a b : Nat) (h : a + b = 64) : (18446744073709551615 : Nat) / 2 ^ a * 2 ^ a = maskN a b := by
  have := mask_low a b (by omega)
  rwa [show 64 - a - b = 0 by omega, Nat.pow_zero, Nat.div_one] at this
theorem mask_all : (18446744073709551615 : Nat) = maskN 0 64 := by decide

theorem and_mask_shr (w a b : Nat) : (w &&& maskN a b) / 2 ^ a = getN w a b := by
  apply Nat.eq_of_testBit_eq
  intro i
  rw [Nat.testBit_div_two_pow, Nat.testBit_and, maskN_bit, getN_bit]
  by_cases h : i < b
  · simp [h, show i + a < a + b by omega]
  · simp [h, show ¬ i + a < a + b by omega]
/-- The word that Put makes by masks. -/
theorem put_mask (w a b n : Nat) (hw : w < 18446744073709551616) (h : a + b ≤ 64) :
    (w &&& (18446744073709551615 - maskN a b)) ||| ((n * 2 ^ a % 18446744073709551616) &&& maskN a b) = putN w a b n := by
  apply Nat.eq_of_testBit_eq
  intro i
  have hm := maskN_lt a b h
  have e : (18446744073709551615 - maskN a b).testBit i = (decide (i < 64) && !(maskN a b).testBit i) := by
    rw [show (18446744073709551615 : Nat) - maskN a b = 2 ^ 64 - (maskN a b + 1) by omega]
    exact Nat.testBit_two_pow_sub_succ (n := 64) hm i
  rw [Nat.testBit_or, Nat.testBit_and, Nat.testBit_and, e, show (18446744073709551616 : Nat) = 2 ^ 64 from rfl, Nat.testBit_mod_two_pow, Nat.mul_comm n, Nat.testBit_two_pow_mul, maskN_bit, putN_bit]
  by_cases h1 : a ≤ i
  · by_cases h2 : i < a + b
    · have : i < 64 := by omega
      simp [h1, h2, this]
    · by_cases h3 : i < 64
      · simp [h2, h3]
      · have : w.testBit i = false := Nat.testBit_lt_two_pow (Nat.lt_of_lt_of_le hw (Nat.pow_le_pow_right (n := 2) (by decide) (Nat.not_lt.1 h3)))
        simp [h2, this]
  · have : i < 64 := by omega
    simp [h1, this]

/-! bit by bit -/
def bitN (w k : Nat) : Nat := w / 2 ^ k % 2
/-! the halves -/
theorem get_high (w : Nat) (h : w < 18446744073709551616) : getN w 32 32 = w / 4294967296 := by
  unfold getN; omega
theorem get_low (w : Nat) : getN w 0 32 = w % 4294967296 := by
  unfold getN; omega
theorem put_high (l h : Nat) (hl : l < 18446744073709551616) : putN l 32 32 h = h % 4294967296 * 4294967296 + l % 4294967296 := by
  unfold putN; omega
end Go.Proofs.YtlagghghbpbcbaaGreatDoor.FM

/- Plain arithmetic of references: which numbers the fields of a reference are, in sums, quotients and remainders. No program is spoken of here. -/
namespace Go.Proofs.YtlagghghbpbcbaaGreatDoor.RM
open FM

/-- The reference of a generation and an index, without a mark. -/
def ofI (g i : Int) : Int := if g ≤ 4294967295 ∧ 1 ≤ i ∧ i ≤ 2147483647 then g * 4294967296 + i * 2 else 0
theorem ofI_yes {g i : Int} (h : g ≤ 4294967295 ∧ 1 ≤ i ∧ i ≤ 2147483647) : ofI g i = g * 4294967296 + i * 2 := if_pos h
theorem ofI_no {g i : Int} (h : ¬ (g ≤ 4294967295 ∧ 1 ≤ i ∧ i ≤ 2147483647)) : ofI g i = 0 := if_neg h

theorem get_index (v : Int) (h0 : 0 ≤ v) : getI v 1 31 = v % 4294967296 / 2 := by
  obtain ⟨v, rfl⟩ := Int.eq_ofNat_of_zero_le h0
  show (if isB 1 31 then _ else _) = _
  rw [if_pos (by decide)]
  show ((getN v 1 31 : Nat) : Int) = _
  unfold getN; omega
theorem get_mark (v : Int) (h0 : 0 ≤ v) : getI v 0 1 = v % 2 := by
  obtain ⟨v, rfl⟩ := Int.eq_ofNat_of_zero_le h0
  show (if isB 0 1 then _ else _) = _
  rw [if_pos (by decide)]
  show ((getN v 0 1 : Nat) : Int) = _
  unfold getN; omega
theorem put_zero (v : Int) (h0 : 0 ≤ v) : putI v 0 1 0 = v - v % 2 := by
  obtain ⟨v, rfl⟩ := Int.eq_ofNat_of_zero_le h0
  show (if isB 0 1 then _ else _) = _
  rw [if_pos (by decide)]
  show ((putN v 0 1 0 : Nat) : Int) = _
  unfold putN; omega
theorem put_index (g i : Int) (g0 : 0 ≤ g) (g1 : g ≤ 4294967295) (i1 : 1 ≤ i) (i2 : i ≤ 2147483647) :
    putI (g * 4294967296) 1 31 i = g * 4294967296 + i * 2 := by
  obtain ⟨g, rfl⟩ := Int.eq_ofNat_of_zero_le g0
  obtain ⟨i, rfl⟩ := Int.eq_ofNat_of_zero_le (a := i) (by omega)
  rw [show ((g : Int) * 4294967296) = ((g * 4294967296 : Nat) : Int) by omega]
  show (if isB 1 31 then _ else _) = _
  rw [if_pos (by decide)]
  show ((putN (g * 4294967296) 1 31 i : Nat) : Int) = _
  unfold putN; omega
theorem pair_zero (g : Int) (g0 : 0 ≤ g) (g1 : g ≤ 4294967295) : g % 4294967296 * 4294967296 + 0 % 4294967296 = g * 4294967296 := by omega
end Go.Proofs.YtlagghghbpbcbaaGreatDoor.RM

/- Slots that wait, in plain lists: three lists by the rest of their epochs; which are ripe, which stay; the document's one list is these three, one behind the other. No program is named. -/
namespace Go.Proofs.YtlagghghbpbcbaaGreatDoor.LM
set_option linter.unusedVariables false
set_option linter.unusedSimpArgs false

abbrev R2 := Int × Int
abbrev Ls := Nat → List R2
/-- Is a slot ripe in the epoch c? -/
def ripeB (c : Int) (x : R2) : Bool := decide (2 ≤ c) && decide (x.2 ≤ c - 2)
def noL : Ls := fun _ => []
def allL (L : Ls) : List R2 := L 0 ++ (L 1 ++ L 2)
def putL (L : Ls) (i : Nat) (l : List R2) : Ls := fun j => if j = i then l else L j
theorem putL_same (L : Ls) (i : Nat) (l : List R2) : putL L i l i = l := if_pos rfl
theorem putL_other (L : Ls) {i j : Nat} (l : List R2) (h : j ≠ i) : putL L i l j = L j := if_neg h
def lenL (L : Ls) : Nat := (L 0).length + (L 1).length + (L 2).length
theorem lenL_le (L : Ls) {i : Nat} (hi : i < 3) : (L i).length ≤ lenL L := by
  match i, hi with
  | 0, _ => simp [lenL]; omega
  | 1, _ => simp [lenL]; omega
  | 2, _ => simp [lenL]
/-- All slots of the first k lists. -/
def upL (L : Ls) : Nat → List R2
  | 0 => []
  | k + 1 => upL L k ++ L k
/-- Ripe, k lists gone through. -/
def amidL (L : Ls) (c : Int) (k : Nat) : Ls := fun i => if i < k then (L i).filter (fun x => !ripeB c x) else L i
/-- Copy, k lists gone through. -/
def takeL (L : Ls) (k : Nat) : Ls := fun i => if i < k then L i else []
/-- What Ripe has told, k lists gone through. -/
def outL (L : Ls) (c : Int) (k : Nat) : List R2 := (upL L k).filter (ripeB c)
/-! Each slot is in the list of its epoch. -/
def Right (L : Ls) : Prop := ∀ i x, i < 3 → x ∈ L i → x.2 % 3 = (i : Int)
def addL (L : Ls) (x : R2) : Ls := putL L (x.2 % 3).toNat (L (x.2 % 3).toNat ++ [x])
theorem rest_of (e : Int) : ∃ i : Nat, i < 3 ∧ e % 3 = (i : Int) := ⟨(e % 3).toNat, by omega, by omega⟩
theorem addL_is (L : Ls) {x : R2} {i : Nat} (h : x.2 % 3 = (i : Int)) : addL L x = putL L i (L i ++ [x]) := by
  unfold addL
  rw [h]
  rfl
/-- Where the document puts one more: behind the last one whose epoch's rest is no more. a of the first k have been seen. -/
def Behind (e : Int) (l : List R2) (a k : Nat) : Prop := a ≤ k ∧ (∀ i x, a ≤ i → i < k → l[i]? = some x → ¬ x.2 % 3 ≤ e % 3) ∧ (0 < a → ∃ x, l[a - 1]? = some x ∧ x.2 % 3 ≤ e % 3)
/-! Epochs that rise: all slots are of one that is, or was; of those two epochs on none stays. -/
def Upto (L : Ls) (e : Int) : Prop := ∀ x ∈ allL L, x.2 ≤ e
end Go.Proofs.YtlagghghbpbcbaaGreatDoor.LM
