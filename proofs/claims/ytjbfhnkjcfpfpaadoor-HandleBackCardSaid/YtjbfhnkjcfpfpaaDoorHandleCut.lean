/- How package handle reads a text: it is cut at its first full stop, and each part is held against the digits of its number. No program is named. -/
import Derived.Test.YtjbfhnkjcfpfpaaDoorHandleMath
import Derived.Lib.IndexMore
import Derived.Lib.IndexLaws
import Derived.Lib.ParseIntBCases
namespace Go.Proofs.YtjbfhnkjcfpfpaaDoor.HaM
set_option maxRecDepth 20000
open SM
open Go.Lib (decDigits cut index indexByte parseUintB parseUintM)
set_option linter.unusedVariables false
set_option linter.unusedSimpArgs false

theorem pu_more {c : UInt8} {a : Nat} {r : List UInt8} (hc : isD c = true) (ha : a < 1844674407370955162) (h : 10 * a + (c.toNat - 48) ≤ 4294967295) : parseUintM 4294967295 a (c :: r) = parseUintM 4294967295 (10 * a + (c.toNat - 48)) r := by
  rw [parseUintM, if_pos (of_decide_eq_true hc), if_neg (by omega), if_neg (by omega), Nat.mul_comm]
theorem pu_dec : ∀ (n : Nat) (t : List UInt8), n ≤ 4294967295 → parseUintM 4294967295 0 (decDigits n ++ t) = parseUintM 4294967295 n t := by
  intro n
  induction n using Nat.strongRecOn with
  | _ n ih =>
    intro t hn
    by_cases h : n < 10
    · rw [dec_small h]
      simp only [List.cons_append, List.nil_append]
      rw [pu_more (isD_digit h) (by omega) (by rw [digit_byte h]; omega), digit_byte h]
      rw [show 10 * 0 + (48 + n - 48) = n by omega]
    · rw [dec_big h, List.append_assoc, ih (n / 10) (by omega) _ (by omega)]
      simp only [List.cons_append, List.nil_append]
      have hd : n % 10 < 10 := by omega
      rw [pu_more (isD_digit hd) (by omega) (by rw [digit_byte hd]; omega), digit_byte hd]
      rw [show 10 * (n / 10) + (48 + n % 10 - 48) = n by omega]
theorem pub_dec {n : Nat} (h : n ≤ 4294967295) : parseUintB 32 (decDigits n) = .ok n := by
  unfold parseUintB
  rw [if_neg (by intro e; have := dec_pos n; rw [e] at this; simp at this)]
  have := pu_dec n [] h
  rw [List.append_nil] at this
  exact this
theorem dec_le : ∀ (k n : Nat), n < 10 ^ (k + 1) → (decDigits n).length ≤ k + 1 := by
  intro k
  induction k with
  | zero => intro n h; rw [dec_small (by omega)]; simp
  | succ k ih =>
    intro n h
    by_cases h1 : n < 10
    · rw [dec_small h1]; simp
    · rw [dec_big h1, List.length_append]
      have := ih (n / 10) (by rw [Nat.pow_succ] at h; omega)
      simp only [List.length_cons, List.length_nil]
      omega
/-- The number of 32 bits whose digits these are. -/
def numP (s : List UInt8) : Option Nat :=
  if s.length ≤ 10 then match parseUintB 32 s with
    | .ok n => if decDigits n = s then some n else none
    | _ => none
  else none
theorem num_dec {n : Nat} (h : n ≤ 4294967295) : numP (decDigits n) = some n := by
  unfold numP
  rw [if_pos (dec_le 9 n (by omega)), pub_dec h]
  simp
theorem num_is {s : List UInt8} {n : Nat} (h : numP s = some n) : s = decDigits n ∧ n ≤ 4294967295 := by
  unfold numP at h
  split at h
  · cases e : parseUintB 32 s
    · rw [e] at h
      simp only at h
      split at h
      · rename_i hd
        cases h
        exact ⟨hd.symm, by have := Go.Lib.parseUintB_le e; omega⟩
      · cases h
    all_goals
      rw [e] at h
      cases h
  · cases h
theorem num_long {s : List UInt8} (h : 10 < s.length) : numP s = none := by unfold numP; rw [if_neg (by omega)]
theorem num_ok {s : List UInt8} {n : Nat} (h : ¬ 10 < s.length) (hp : parseUintB 32 s = .ok n) (hd : decDigits n = s) : numP s = some n := by
  unfold numP; rw [if_pos (by omega), hp]; simp [hd]
theorem num_off {s : List UInt8} {n : Nat} (h : ¬ 10 < s.length) (hp : parseUintB 32 s = .ok n) (hd : ¬ decDigits n = s) : numP s = none := by
  unfold numP; rw [if_pos (by omega), hp]; simp [hd]
theorem num_no {s : List UInt8} (h : ∀ n, parseUintB 32 s ≠ .ok n) : numP s = none := by
  unfold numP
  split
  · cases e : parseUintB 32 s
    · exact absurd e (h _)
    all_goals rfl
  · rfl

/-- A text cut at its first full stop: two numbers. -/
def cutP (s : List UInt8) : Option (Nat × Nat) :=
  if (cut s [46]).2.2 = true then match numP (cut s [46]).1 with
    | none => none
    | some g => match numP (cut s [46]).2.1 with
      | none => none
      | some n => some (g, n)
  else none
theorem dec_digits : ∀ (n : Nat) (k : Nat), (decDigits n)[k]? ≠ some 46 := by
  intro n
  induction n using Nat.strongRecOn with
  | _ n ih =>
    intro k e
    have hb : ∀ d, d < 10 → UInt8.ofNat (48 + d) ≠ 46 := by
      intro d hd e
      have := digit_byte hd
      rw [e] at this
      have h46 : (46 : UInt8).toNat = 46 := rfl
      omega
    by_cases h : n < 10
    · rw [dec_small h] at e
      cases k with
      | zero => simp only [List.getElem?_cons_zero, Option.some.injEq] at e; exact hb n h e
      | succ k => simp at e
    · rw [dec_big h] at e
      by_cases hk : k < (decDigits (n / 10)).length
      · rw [List.getElem?_append_left hk] at e
        exact ih (n / 10) (by omega) k e
      · rw [List.getElem?_append_right (by omega)] at e
        cases hk2 : k - (decDigits (n / 10)).length with
        | zero => rw [hk2] at e; simp only [List.getElem?_cons_zero, Option.some.injEq] at e; exact hb _ (by omega) e
        | succ j => rw [hk2] at e; simp at e
theorem cut_at {a b : List UInt8} (h : ∀ k : Nat, a[k]? ≠ some 46) : cut (a ++ 46 :: b) [46] = (a, b, true) := by
  have hi : index (a ++ 46 :: b) [46] = (a.length : Int) := by
    rw [Go.Lib.index_one]
    have h0 := Go.Lib.indexByte_ge (a ++ 46 :: b) 46
    have hat : (a ++ 46 :: b)[a.length]? = some 46 := by rw [List.getElem?_append_right (Nat.le_refl _)]; simp
    by_cases hn : indexByte (a ++ 46 :: b) 46 = -1
    · exact absurd hat (Go.Lib.indexByte_none hn _)
    · obtain ⟨o, ho⟩ := Int.eq_ofNat_of_zero_le (show 0 ≤ indexByte (a ++ 46 :: b) 46 by omega)
      obtain ⟨h1, h2⟩ := Go.Lib.indexByte_some ho
      rw [ho]
      by_cases h3 : o < a.length
      · rw [List.getElem?_append_left h3] at h1; exact absurd h1 (h o)
      · by_cases h4 : a.length < o
        · exact absurd hat (h2 _ h4)
        · rw [show o = a.length by omega]
  unfold cut
  rw [hi, if_pos (by omega)]
  simp
theorem cut_is {s a b : List UInt8} (h : cut s [46] = (a, b, true)) : s = a ++ 46 :: b := by
  unfold cut at h
  split at h
  · rename_i h0
    obtain ⟨o, ho⟩ := Int.eq_ofNat_of_zero_le h0
    rw [ho] at h
    rw [Go.Lib.index_one] at ho
    obtain ⟨h1, -⟩ := Go.Lib.indexByte_some ho
    simp only [Prod.mk.injEq, List.length_cons, List.length_nil] at h
    obtain ⟨ha, hb, -⟩ := h
    obtain ⟨hl, h1⟩ := List.getElem?_eq_some_iff.1 h1
    rw [← ha, ← hb, ← h1]
    simp
  · simp at h
theorem cutP_is {s : List UInt8} {g n : Nat} (h : cutP s = some (g, n)) : g ≤ 4294967295 ∧ n ≤ 4294967295 ∧ s = decDigits g ++ 46 :: decDigits n := by
  unfold cutP at h
  split at h
  · rename_i hc
    cases h1 : numP (cut s [46]).1 with
    | none => rw [h1] at h; cases h
    | some g' =>
      rw [h1] at h
      simp only at h
      cases h2 : numP (cut s [46]).2.1 with
      | none => rw [h2] at h; cases h
      | some n' =>
        rw [h2] at h
        cases h
        obtain ⟨e1, b1⟩ := num_is h1
        obtain ⟨e2, b2⟩ := num_is h2
        refine ⟨b1, b2, ?_⟩
        rw [← e1, ← e2]
        exact cut_is (s := s) (by rw [← hc])
  · cases h
theorem cutP_text {g n : Nat} (hg : g ≤ 4294967295) (hn : n ≤ 4294967295) : cutP (decDigits g ++ 46 :: decDigits n) = some (g, n) := by
  unfold cutP
  rw [cut_at (dec_digits g)]
  simp only [num_dec hg, num_dec hn]
  rfl
theorem cutP_parts (s : List UInt8) : cutP s = parts s := by
  cases h : parts s with
  | some x =>
    obtain ⟨g, n⟩ := x
    obtain ⟨h1, h2, h3⟩ := parts_is h
    rw [h3]
    exact cutP_text h1 h2
  | none =>
    cases h2 : cutP s with
    | none => rfl
    | some x =>
      obtain ⟨g, n⟩ := x
      obtain ⟨q1, q2, q3⟩ := cutP_is h2
      rw [q3, parts_text q1 q2] at h
      cases h
end Go.Proofs.YtjbfhnkjcfpfpaaDoor.HaM
