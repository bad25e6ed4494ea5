/- Deeds done to words such as there can be; the memory at the beginning, word by word. No program is named. -/
import Derived.Test.YtjbfhnkjcfpfpaaDoorBlankMath
import Derived.Test.YtjbfhnkjcfpfpaaDoorDeedFits
namespace Go.Proofs.YtjbfhnkjcfpfpaaDoor.MM
open DM PM CM BM

theorem fits_next {l : List Int} {d : D} (h : BM.Fits l) (hd : DM.Fits d) : BM.Fits (nextD l d) := by
  obtain ⟨kd, i, a, b, y⟩ := d
  obtain ⟨h1, h2, h3, h4⟩ := hd
  simp only at h2 h3
  by_cases e1 : kd = 1
  · subst e1; rw [nextD_1]; exact h
  by_cases e2 : kd = 2
  · subst e2; rw [nextD_2]; exact fits_set h _ h2
  by_cases e3 : kd = 3
  · subst e3; rw [nextD_3]; unfold swapI; split
    · exact fits_set h _ h3
    · exact h
  by_cases e4 : kd = 4
  · subst e4; rw [nextD_4]; unfold addI; exact fits_set h _ (by omega)
  rw [nextD_no (by simp only; omega)]
  exact h
theorem fits_found {l : List Int} (h : BM.Fits l) (d : D) : 0 ≤ foundD l d ∧ foundD l d < 18446744073709551616 := by
  unfold foundD
  split
  · exact fits_get h _
  · omega
theorem wrap_lo (z : Int) : -9223372036854775808 ≤ Go.RowKit.wrap64 z ∧ Go.RowKit.wrap64 z ≤ 9223372036854775807 := by unfold Go.RowKit.wrap64; omega
theorem at_fits (T L s k : Int) : -9223372036854775808 ≤ atI T L s k ∧ atI T L s k ≤ 9223372036854775807 := wrap_lo _
theorem of_fits (T n k : Int) : -9223372036854775808 ≤ ofI T n k ∧ ofI T n k ≤ 9223372036854775807 := wrap_lo _
theorem next_fits (T L s k : Int) : -9223372036854775808 ≤ PM.nextI T L s k ∧ PM.nextI T L s k ≤ 9223372036854775807 := by
  unfold PM.nextI
  split
  · exact of_fits _ _ _
  · exact at_fits _ _ _ _
theorem swap_is {l : List Int} (i b : Int) : swapI l i (getI l i) b = setI l i b := if_pos rfl
theorem swap_no {l : List Int} {i a b : Int} (h : ¬ getI l i = a) : swapI l i a b = l := if_neg h

/-- What stands outside of the slots at the beginning: nothing but the epoch and the stack's head. -/
theorem lay_low {T S L : Nat} (g : Int) (hT : T ≤ 8) (hS : S ≤ 64) (hL : L ≤ 8) {j : Nat} (h0 : j ≠ 0) (h3 : j ≠ 3) (hj : j < 4 + 3 * T + L) : ∀ k, k ≤ S → getI (layL (wordsN T S L) T S L g k) (j : Int) = 0
  | 0, _ => by
    rw [lay_zero]
    unfold headL
    rw [get_other (by omega), get_other (by omega)]
    exact getI_some (by rw [List.getElem?_replicate, if_pos (by unfold wordsN; omega)])
  | k + 1, hk => by
    obtain ⟨b, hb, eb, _, _⟩ := at_nat (a := 0) hT hS hL (show 1 ≤ k + 1 by omega) hk (by omega)
    obtain ⟨c, hc, ec, _, _⟩ := at_nat (a := 5) hT hS hL (show 1 ≤ k + 1 by omega) hk (by omega)
    simp only [Int.natCast_add, Int.natCast_one] at hb hc
    change atI T L ((k : Int) + 1) 0 = _ at hb
    change atI T L ((k : Int) + 1) 5 = _ at hc
    have b1 : 4 + 3 * T + L ≤ b := by rw [eb]; unfold atN; omega
    have c1 : 4 + 3 * T + L ≤ c := by rw [ec]; unfold atN; omega
    rw [lay_succ, hb, hc, get_other (by omega), get_other (by omega)]
    exact lay_low g hT hS hL h0 h3 hj k (by omega)
/-- Where a thread's words are. -/
theorem of_nat {T S L n k : Nat} (hT : T ≤ 8) (hn : n ≤ 2) (hk : k < T) : ofI (T : Int) (n : Int) (k : Int) = ((4 + n * T + k : Nat) : Int) ∧ 4 ≤ 4 + n * T + k ∧ 4 + n * T + k < 4 + 3 * T + L ∧ 4 + n * T + k < wordsN T S L := by
  have h1 : n * T ≤ 2 * T := Nat.mul_le_mul_right _ hn
  have h2 : 2 * T ≤ 16 := by omega
  exact ⟨of_cast (by omega) (by omega), by omega, by omega, by unfold wordsN; omega⟩
theorem there_in {l : List Int} {T S L j : Nat} (hl : l.length = wordsN T S L) (hj : j < wordsN T S L) : there l (j : Int) := by
  unfold there
  omega
end Go.Proofs.YtjbfhnkjcfpfpaaDoor.MM
