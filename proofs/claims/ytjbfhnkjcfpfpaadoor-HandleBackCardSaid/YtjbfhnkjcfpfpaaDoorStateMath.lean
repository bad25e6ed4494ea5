/- States of slots in plain arithmetic: the word of a generation and a status, the next one, its text. Nothing of the program is named here. -/
import Derived.Lib.ItoaNum
namespace SM
/-- The word of which the halves are the lowest 32 bits of both. -/
def stI (g s : Int) : Int := g % 4294967296 * 4294967296 + s % 4294967296
def isI (v g s : Int) : Bool := decide (g ≤ 4294967295 ∧ 0 ≤ s ∧ s ≤ 4 ∧ v = stI g s)
def nextI (v : Int) : Int := if v / 4294967296 = 4294967295 then stI 4294967295 4 else stI (v / 4294967296 + 1) 0
theorem stI_lo (g s : Int) : 0 ≤ stI g s := by unfold stI; omega
theorem stI_hi (g s : Int) : stI g s < 18446744073709551616 := by unfold stI; omega
theorem nextI_lo (v : Int) : 0 ≤ nextI v := by unfold nextI; split <;> exact stI_lo _ _
theorem nextI_hi (v : Int) : nextI v < 18446744073709551616 := by unfold nextI; split <;> exact stI_hi _ _
theorem stI_gen {g s : Int} (h0 : 0 ≤ g) (h1 : g ≤ 4294967295) : stI g s / 4294967296 = g := by unfold stI; omega
theorem stI_status {g s : Int} (h0 : 0 ≤ s) (h1 : s ≤ 4294967295) : stI g s % 4294967296 = s := by unfold stI; omega
theorem is_parts {v g s : Int} (h0 : 0 ≤ v) (h1 : v < 18446744073709551616) (g0 : 0 ≤ g) (hg : g ≤ 4294967295) (s0 : 0 ≤ s) (s1 : s ≤ 4) : (v = stI g s) ↔ (v / 4294967296 = g ∧ v % 4294967296 = s) := by
  unfold stI; omega

/-- A number's digits. -/
def decI (u : Int) : List UInt8 := Go.Lib.decDigits u.toNat
theorem decI_nat (u : Nat) : decI u = Go.Lib.decDigits u := rfl
/-- What a status is called. -/
def calledI (s : Int) : List UInt8 := if s = 0 then [102, 114, 101, 101] else if s = 1 then [109, 97, 107, 105, 110, 103] else if s = 2 then [108, 105, 118, 101] else if s = 3 then [116, 97, 107, 101, 110] else if s = 4 then [103, 111, 110, 101] else decI s
def wordsL : List (List UInt8) := [[102, 114, 101, 101], [109, 97, 107, 105, 110, 103], [108, 105, 118, 101], [116, 97, 107, 101, 110], [103, 111, 110, 101]]
def textI (v : Int) : List UInt8 := decI (v / 4294967296) ++ [32] ++ calledI (v % 4294967296)
theorem called_digits {s : Int} (h : 4 < s) : calledI s = decI s := by
  unfold calledI
  rw [if_neg (by omega), if_neg (by omega), if_neg (by omega), if_neg (by omega), if_neg (by omega)]
theorem words_at (s : Nat) (h : s < 5) : wordsL[s]? = some (calledI s) := by
  match s, h with
  | 0, _ => rfl
  | 1, _ => rfl
  | 2, _ => rfl
  | 3, _ => rfl
  | 4, _ => rfl
end SM
namespace SM
theorem is_st {g s og os : Int} (g0 : 0 ≤ g) (g1 : g ≤ 4294967295) (s0 : 0 ≤ s) (s1 : s ≤ 4) (h0 : 0 ≤ og) : isI (stI g s) og os = decide (g = og ∧ s = os) := by
  unfold isI
  by_cases h : og ≤ 4294967295 ∧ 0 ≤ os ∧ os ≤ 4
  · obtain ⟨h1, h2, h3⟩ := h
    have : (stI g s = stI og os) ↔ (g = og ∧ s = os) := by unfold stI; omega
    rw [Bool.eq_iff_iff]
    simp only [decide_eq_true_eq, this]
    omega
  · rw [Bool.eq_iff_iff]
    simp only [decide_eq_true_eq]
    omega
theorem is_out {v g s : Int} (h : ¬ (g ≤ 4294967295 ∧ 0 ≤ s ∧ s ≤ 4)) : isI v g s = false := by
  unfold isI
  rw [decide_eq_false]
  exact fun x => h ⟨x.1, x.2.1, x.2.2.1⟩
theorem next_last {v : Int} (h : v / 4294967296 = 4294967295) : nextI v = stI 4294967295 4 := if_pos h
theorem next_gen {v : Int} (h0 : 0 ≤ v) (h1 : v < 18446744073709551616) (h : v / 4294967296 ≠ 4294967295) : nextI v / 4294967296 = v / 4294967296 + 1 := by
  rw [nextI, if_neg h]; unfold stI; omega
theorem next_status {v : Int} (h : v / 4294967296 ≠ 4294967295) : nextI v % 4294967296 = 0 := by
  rw [nextI, if_neg h]; unfold stI; omega
end SM
