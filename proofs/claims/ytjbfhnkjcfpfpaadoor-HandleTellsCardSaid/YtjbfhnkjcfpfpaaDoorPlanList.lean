/- All words' places of a plan as a list: how many there are, that each is below that, and that no two are one. No program is named. -/
import Derived.Test.YtjbfhnkjcfpfpaaDoorPlanMath
namespace Go.Proofs.YtjbfhnkjcfpfpaaDoor.PM
open Go.RowKit

/-- Where the k-th word of a slot is. -/
def atN (T L i k : Nat) : Nat := 4 + 3 * T + L + (i - 1) * (6 + L) + k
def nextN (T L i k : Nat) : Nat := if i = 0 then 4 + 3 * T + k else atN T L i (6 + k)
def thN (T t : Nat) : List Nat := [4 + t, 4 + T + t, 4 + 2 * T + t]
def waysN (T L i k : Nat) : List Nat := (List.range k).map (nextN T L i)
def ownN (T L i : Nat) : List Nat := if i = 0 then [] else [atN T L i 0, atN T L i 1, atN T L i 2, atN T L i 3, atN T L i 4, atN T L i 5]
def slN (T L i : Nat) : List Nat := waysN T L i L ++ ownN T L i
def headN (T t : Nat) : List Nat := [0, 1, 2, 3] ++ (List.range t).flatMap (thN T)
def sumN (T L i : Nat) : List Nat := headN T T ++ (List.range i).flatMap (slN T L)
def allN (T S L : Nat) : List Nat := sumN T L (S + 1)
def wordsN (T S L : Nat) : Nat := 4 + 3 * T + L + S * (6 + L)

theorem head_succ (T t : Nat) : headN T (t + 1) = headN T t ++ thN T t := by simp [headN, List.range_succ, List.flatMap_append]
theorem sum_succ (T L i : Nat) : sumN T L (i + 1) = sumN T L i ++ slN T L i := by simp [sumN, List.range_succ, List.flatMap_append]
theorem ways_succ (T L i k : Nat) : waysN T L i (k + 1) = waysN T L i k ++ [nextN T L i k] := by simp [waysN, List.range_succ]
theorem sum_zero (T L : Nat) : sumN T L 0 = headN T T := by simp [sumN]
theorem head_zero (T : Nat) : headN T 0 = [0, 1, 2, 3] := by simp [headN]
theorem ways_zero (T L i : Nat) : waysN T L i 0 = [] := by simp [waysN]
theorem own_zero (T L : Nat) : ownN T L 0 = [] := if_pos rfl
theorem own_some (T L i : Nat) (h : ¬ i = 0) : ownN T L i = [atN T L i 0, atN T L i 1, atN T L i 2, atN T L i 3, atN T L i 4, atN T L i 5] := if_neg h

theorem head_length (T : Nat) : ∀ t, (headN T t).length = 4 + 3 * t
  | 0 => by rw [head_zero]; rfl
  | t + 1 => by rw [head_succ, List.length_append, head_length T t]; simp [thN]; omega
theorem ways_length (T L i k : Nat) : (waysN T L i k).length = k := by simp [waysN]
theorem sum_length (T L : Nat) : ∀ i, (sumN T L (i + 1)).length = 4 + 3 * T + L + i * (6 + L)
  | 0 => by rw [sum_succ, sum_zero, List.length_append, head_length]; simp [slN, ways_length, own_zero]
  | i + 1 => by
    rw [sum_succ, List.length_append, sum_length T L i]
    simp [slN, ways_length, own_some, Nat.add_mul]
    omega
theorem all_length (T S L : Nat) : (allN T S L).length = wordsN T S L := sum_length T L S

/-! In order: what stands ahead is less. -/
theorem head_lt (T : Nat) : ∀ t, t ≤ T → ∀ x ∈ headN T t, x < 4 + 3 * T
  | 0, _, x, hx => by rw [head_zero] at hx; simp at hx; omega
  | t + 1, ht, x, hx => by
    rw [head_succ, List.mem_append] at hx
    rcases hx with hx | hx
    · exact head_lt T t (by omega) x hx
    · simp [thN] at hx; omega
theorem mem_head (T t x : Nat) : x ∈ headN T t ↔ x < 4 ∨ ∃ s, s < t ∧ (x = 4 + s ∨ x = 4 + T + s ∨ x = 4 + 2 * T + s) := by
  simp only [headN, List.mem_append, List.mem_flatMap, List.mem_range, thN, List.mem_cons, List.not_mem_nil, or_false]
  constructor
  · rintro (h | ⟨s, hs, h⟩)
    · exact .inl (by omega)
    · exact .inr ⟨s, hs, h⟩
  · rintro (h | ⟨s, hs, h⟩)
    · exact .inl (by omega)
    · exact .inr ⟨s, hs, h⟩
theorem head_nodup (T : Nat) : ∀ t, t ≤ T → (headN T t).Nodup
  | 0, _ => by rw [head_zero]; decide
  | t + 1, ht => by
    rw [head_succ, List.nodup_append]
    refine ⟨head_nodup T t (by omega), ?_, ?_⟩
    · simp [thN]; omega
    · intro a ha b hb
      rw [mem_head] at ha
      simp only [thN, List.mem_cons, List.not_mem_nil, or_false] at hb
      rcases ha with h | ⟨s, hs, h⟩ <;> omega
theorem mem_sl {T L i x : Nat} (h : x ∈ slN T L i) : (i = 0 ∧ 4 + 3 * T ≤ x ∧ x < 4 + 3 * T + L) ∨ (0 < i ∧ 4 + 3 * T + L + (i - 1) * (6 + L) ≤ x ∧ x < 4 + 3 * T + L + i * (6 + L)) := by
  simp only [slN, List.mem_append, waysN, List.mem_map, List.mem_range, nextN, atN] at h
  by_cases hi : i = 0
  · subst hi
    rcases h with ⟨k, hk, rfl⟩ | h
    · left; simp; omega
    · simp [own_zero] at h
  · right
    have e : i * (6 + L) = (i - 1) * (6 + L) + (6 + L) := by rw [← Nat.succ_mul]; congr 1; omega
    rcases h with ⟨k, hk, rfl⟩ | h
    · rw [if_neg hi]; omega
    · rw [own_some T L i hi] at h
      simp only [atN, List.mem_cons, List.not_mem_nil, or_false] at h
      omega
theorem ways_nodup (T L i : Nat) : ∀ k, (waysN T L i k).Nodup
  | 0 => by rw [ways_zero]; exact List.nodup_nil
  | k + 1 => by
    rw [ways_succ, List.nodup_append]
    refine ⟨ways_nodup T L i k, by simp, ?_⟩
    intro a ha b hb
    simp only [waysN, List.mem_map, List.mem_range] at ha
    obtain ⟨j, hj, rfl⟩ := ha
    simp only [List.mem_cons, List.not_mem_nil, or_false] at hb
    subst hb
    unfold nextN atN
    split <;> omega
theorem sl_nodup (T L i : Nat) : (slN T L i).Nodup := by
  unfold slN
  rw [List.nodup_append]
  refine ⟨ways_nodup T L i L, ?_, ?_⟩
  · by_cases hi : i = 0
    · subst hi; rw [own_zero]; exact List.nodup_nil
    · rw [own_some T L i hi]; simp [atN]
  · intro a ha b hb
    by_cases hi : i = 0
    · subst hi; simp [own_zero] at hb
    · rw [own_some T L i hi] at hb
      simp only [waysN, List.mem_map, List.mem_range, nextN, if_neg hi, atN] at ha
      obtain ⟨k, hk, rfl⟩ := ha
      simp only [atN, List.mem_cons, List.not_mem_nil, or_false] at hb
      omega
theorem sum_lt (T L : Nat) : ∀ i, ∀ x ∈ sumN T L (i + 1), x < 4 + 3 * T + L + i * (6 + L)
  | 0, x, hx => by
    rw [sum_succ, sum_zero, List.mem_append] at hx
    rcases hx with hx | hx
    · have := head_lt T T (Nat.le_refl _) x hx; omega
    · rcases mem_sl hx with h | h <;> omega
  | i + 1, x, hx => by
    rw [sum_succ, List.mem_append] at hx
    have e : (i + 1) * (6 + L) = i * (6 + L) + (6 + L) := Nat.succ_mul _ _
    rcases hx with hx | hx
    · have := sum_lt T L i x hx; omega
    · rcases mem_sl hx with h | h
      · omega
      · omega
theorem sum_nodup (T L : Nat) : ∀ i, (sumN T L (i + 1)).Nodup
  | 0 => by
    rw [sum_succ, sum_zero, List.nodup_append]
    refine ⟨head_nodup T T (Nat.le_refl _), sl_nodup T L 0, ?_⟩
    intro a ha b hb
    have h1 := head_lt T T (Nat.le_refl _) a ha
    rcases mem_sl hb with h | h <;> omega
  | i + 1 => by
    rw [sum_succ, List.nodup_append]
    refine ⟨sum_nodup T L i, sl_nodup T L (i + 1), ?_⟩
    intro a ha b hb
    have h1 := sum_lt T L i a ha
    rcases mem_sl hb with h | h
    · omega
    · simp at h; omega
theorem all_lt (T S L x : Nat) (h : x ∈ allN T S L) : x < wordsN T S L := sum_lt T L S x h
theorem all_nodup (T S L : Nat) : (allN T S L).Nodup := sum_nodup T L S

/-! As the numbers that the program reckons. -/
theorem of_cast {T n t : Nat} (h1 : n * T ≤ 100000) (h2 : t ≤ 100000) : ofI (T : Int) (n : Int) (t : Int) = ((4 + n * T + t : Nat) : Int) := by
  unfold ofI
  rw [wrap_in (by have : ((n : Int) * (T : Int)) = ((n * T : Nat) : Int) := by simp
                  rw [this]; omega)]
  simp
theorem slot_small {L i : Nat} (hi : i ≤ 100) (hL : L ≤ 100) : (i - 1) * (6 + L) ≤ 10600 := by
  have := Nat.mul_le_mul (show i - 1 ≤ 100 by omega) (show 6 + L ≤ 106 by omega)
  omega
theorem at_cast {T L i k : Nat} (hT : T ≤ 100) (hL : L ≤ 100) (hi : i ≤ 100) (h1 : 1 ≤ i) (hk : k ≤ 1000) : atI (T : Int) (L : Int) (i : Int) (k : Int) = (atN T L i k : Int) := by
  have hs := slot_small hi hL
  have e : ((i : Int) - 1) * (6 + (L : Int)) = (((i - 1) * (6 + L) : Nat) : Int) := by
    rw [Int.natCast_mul, Int.natCast_add, Int.ofNat_sub h1]; rfl
  unfold atI atN
  rw [e, wrap_in (by omega)]
  omega
theorem next_cast {T L i k : Nat} (hT : T ≤ 100) (hL : L ≤ 100) (hi : i ≤ 100) (hk : k ≤ 900) : nextI (T : Int) (L : Int) (i : Int) (k : Int) = (nextN T L i k : Int) := by
  unfold nextI nextN
  by_cases h : i = 0
  · subst h
    rw [if_pos (by rfl), if_pos rfl]
    exact of_cast (n := 3) (by omega) (by omega)
  · rw [if_neg (by omega), if_neg h]
    have := at_cast hT hL hi (by omega) (show 6 + k ≤ 1000 by omega)
    rw [← this]
    rfl
theorem words_cast {T S L : Nat} (hT : T ≤ 100) (hL : L ≤ 100) (hS : S ≤ 99) : atI (T : Int) (L : Int) (wrap64 ((S : Int) + 1)) 0 = (wordsN T S L : Int) := by
  rw [wrap_in (by omega)]
  have h := at_cast (i := S + 1) (k := 0) hT hL (by omega) (by omega) (by omega)
  simp only [Int.natCast_add, Int.natCast_one] at h
  rw [show ((0 : Nat) : Int) = 0 from rfl] at h
  rw [h]
  simp [atN, wordsN]
theorem words_small {T S L : Nat} (hT : T ≤ 8) (hS : S ≤ 64) (hL : L ≤ 8) : wordsN T S L ≤ 4096 := by
  have := Nat.mul_le_mul hS (show 6 + L ≤ 14 by omega)
  unfold wordsN
  omega

/-- Which places have been met. -/
def seenL (l : List Nat) (m n : Nat) : List Bool := (List.range n).map fun v => decide (v ∈ l.take m)
theorem seen_length (l : List Nat) (m n : Nat) : (seenL l m n).length = n := by simp [seenL]
theorem seen_zero (l : List Nat) (n : Nat) : seenL l 0 n = List.replicate n false := by
  apply List.ext_getElem?
  intro i
  simp [seenL, List.getElem?_replicate]
  by_cases h : i < n <;> simp [h]
theorem seen_get {l : List Nat} (hd : l.Nodup) {m n : Nat} (hm : m < l.length) (hx : l[m] < n) : (seenL l m n)[l[m]]? = some false := by
  have hn : l[m] ∉ l.take m := by
    intro hmem
    obtain ⟨j, hj, he⟩ := List.mem_take_iff_getElem.1 hmem
    have hjm : j < m := by omega
    have := (List.getElem_inj (h₀ := by omega) (h₁ := hm) hd).1 he
    omega
  simp [seenL, hx, hn]
theorem seen_step {l : List Nat} {m n : Nat} (hm : m < l.length) (hx : l[m] < n) : (seenL l m n).set l[m] true = seenL l (m + 1) n := by
  apply List.ext_getElem?
  intro i
  rw [List.getElem?_set, seen_length]
  by_cases e : l[m] = i
  · subst e
    rw [if_pos rfl, if_pos hx]
    simp [seenL, hx, List.take_add_one]
  · rw [if_neg e]
    have hi : (i ∈ l.take (m + 1)) ↔ (i ∈ l.take m) := by
      rw [List.take_add_one, List.mem_append]
      simp [List.getElem?_eq_getElem hm, Ne.symm e]
    by_cases h : i < n
    · simp [seenL, h, hi]
    · simp [seenL, h]
end Go.Proofs.YtjbfhnkjcfpfpaaDoor.PM
