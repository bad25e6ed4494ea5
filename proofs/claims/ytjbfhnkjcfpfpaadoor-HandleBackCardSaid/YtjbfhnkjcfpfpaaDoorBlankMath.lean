/- The memory at the beginning, and the free slots that any words tell, in plain lists. No program is named. -/
import Derived.Test.YtjbfhnkjcfpfpaaDoorPlanList
import Derived.Test.YtjbfhnkjcfpfpaaDoorCellsMath
namespace Go.Proofs.YtjbfhnkjcfpfpaaDoor.BM
open Go.RowKit PM CM

/-! Words. -/
theorem get_other {l : List Int} {i j v : Int} (h : i ≠ j) : getI (setI l i v) j = getI l j := by
  by_cases hi : there l i
  · by_cases hj : there l j
    · obtain ⟨a, rfl, ha⟩ := there_nat hi
      obtain ⟨b, rfl, hb⟩ := there_nat hj
      rw [setI_in ha, getI_some (List.getElem?_eq_getElem hb)]
      refine getI_some ?_
      rw [List.getElem?_set_ne (by omega)]
      exact List.getElem?_eq_getElem hb
    · rw [getI_out hj]
      refine getI_out fun h2 => hj ?_
      unfold there at h2 ⊢
      rwa [setI_length] at h2
  · rw [setI_out hi]

/-- All words are such as there can be. -/
def Fits (l : List Int) : Prop := ∀ x ∈ l, 0 ≤ x ∧ x < 18446744073709551616
theorem fits_get {l : List Int} (h : Fits l) (i : Int) : 0 ≤ getI l i ∧ getI l i < 18446744073709551616 := by
  by_cases hi : there l i
  · obtain ⟨a, rfl, ha⟩ := there_nat hi
    rw [getI_some (List.getElem?_eq_getElem ha)]
    exact h _ (List.getElem_mem ha)
  · rw [getI_out hi]
    omega
theorem fits_set {l : List Int} (h : Fits l) (i : Int) {v : Int} (hv : 0 ≤ v ∧ v < 18446744073709551616) : Fits (setI l i v) := by
  unfold setI
  split
  · intro x hx
    rcases List.mem_or_eq_of_mem_set hx with h1 | h1
    · exact h x h1
    · rw [h1]; exact hv
  · exact h

/-! Where a slot's words are. -/
theorem at_less {T L i j a b : Nat} (hi : 1 ≤ i) (h : i < j) (ha : a ≤ 5) : atN T L i a < atN T L j b := by
  have h1 := Nat.mul_le_mul_right (6 + L) (show i ≤ j - 1 by omega)
  have e : i * (6 + L) = (i - 1) * (6 + L) + (6 + L) := by rw [← Nat.succ_mul]; congr 1; omega
  unfold atN
  omega
theorem at_apart {T L i j a b : Nat} (hi : 1 ≤ i) (hj : 1 ≤ j) (ha : a ≤ 5) (hb : b ≤ 5) (h : ¬ (i = j ∧ a = b)) : atN T L i a ≠ atN T L j b := by
  by_cases e : i = j
  · subst e
    unfold atN
    omega
  · rcases Nat.lt_or_gt_of_ne e with h1 | h1
    · have := at_less (T := T) (L := L) (b := b) hi h1 ha
      omega
    · have := at_less (T := T) (L := L) (b := a) hj h1 hb
      omega
theorem at_in {T S L i a : Nat} (hi : 1 ≤ i) (h : i ≤ S) (ha : a ≤ 5) : 4 ≤ atN T L i a ∧ atN T L i a < wordsN T S L := by
  have h1 := Nat.mul_le_mul_right (6 + L) h
  have e : i * (6 + L) = (i - 1) * (6 + L) + (6 + L) := by rw [← Nat.succ_mul]; congr 1; omega
  unfold atN wordsN
  omega
theorem at_nat {T S L i a : Nat} (hT : T ≤ 8) (hS : S ≤ 64) (hL : L ≤ 8) (hi : 1 ≤ i) (h : i ≤ S) (ha : a ≤ 5) : ∃ n : Nat, atI (T : Int) (L : Int) (i : Int) (a : Int) = (n : Int) ∧ n = atN T L i a ∧ 4 ≤ n ∧ n < wordsN T S L :=
  ⟨_, at_cast (by omega) (by omega) (by omega) hi (by omega), rfl, at_in hi h ha⟩

/-! The memory at the beginning. -/
/-- What is below a slot of S. -/
def belowI (S i : Int) : Int := if i < S then i + 1 else 0
theorem below_some {S i : Int} (h : i < S) : belowI S i = i + 1 := if_pos h
theorem below_none {S i : Int} (h : ¬ i < S) : belowI S i = 0 := if_neg h
/-- All words 0, but for the epoch and the stack's head. -/
def headL (n : Nat) : List Int := setI (setI (List.replicate n 0) 0 1) 3 1
/-- So, with the first slots free. -/
def layL (n : Nat) (T S L g : Int) : Nat → List Int
  | 0 => headL n
  | k + 1 => setI (setI (layL n T S L g k) (atI T L ((k : Int) + 1) 0) g) (atI T L ((k : Int) + 1) 5) (belowI S ((k : Int) + 1))
theorem lay_zero (n : Nat) (T S L g : Int) : layL n T S L g 0 = headL n := rfl
theorem lay_succ (n : Nat) (T S L g : Int) (k : Nat) : layL n T S L g (k + 1) = setI (setI (layL n T S L g k) (atI T L ((k : Int) + 1) 0) g) (atI T L ((k : Int) + 1) 5) (belowI S ((k : Int) + 1)) := rfl
theorem head_len (n : Nat) : (headL n).length = n := by unfold headL; rw [setI_length, setI_length, List.length_replicate]
theorem lay_length (n : Nat) (T S L g : Int) : ∀ k, (layL n T S L g k).length = n
  | 0 => head_len n
  | k + 1 => by rw [lay_succ, setI_length, setI_length, lay_length n T S L g k]
theorem fits_head (n : Nat) : Fits (headL n) := by
  refine fits_set (fits_set ?_ _ (by omega)) _ (by omega)
  intro x hx
  rw [List.eq_of_mem_replicate hx]
  omega
theorem fits_lay {S g : Int} (n : Nat) (T L : Int) (hg : 0 ≤ g ∧ g < 18446744073709551616) (hS : S ≤ 64) : ∀ k, Fits (layL n T S L g k)
  | 0 => fits_head n
  | k + 1 => by
    rw [lay_succ]
    refine fits_set (fits_set (fits_lay n T L hg hS k) _ hg) _ ?_
    unfold belowI
    split <;> omega

/-- The head leads to slot 1. -/
theorem head_get {n : Nat} (h : 4 ≤ n) : getI (headL n) 3 = 1 := by
  unfold headL
  refine get_set ?_ 1
  unfold there
  rw [setI_length, List.length_replicate]
  omega
theorem lay_head {T S L : Nat} (g : Int) (hT : T ≤ 8) (hS : S ≤ 64) (hL : L ≤ 8) : ∀ k, k ≤ S → getI (layL (wordsN T S L) T S L g k) 3 = 1
  | 0, _ => head_get (by unfold wordsN; omega)
  | k + 1, hk => by
    obtain ⟨a, ha, _, ha4, _⟩ := at_nat (a := 0) hT hS hL (show 1 ≤ k + 1 by omega) hk (by omega)
    obtain ⟨b, hb, _, hb4, _⟩ := at_nat (a := 5) hT hS hL (show 1 ≤ k + 1 by omega) hk (by omega)
    simp only [Int.natCast_add, Int.natCast_one] at ha hb
    change atI T L ((k : Int) + 1) 0 = _ at ha
    change atI T L ((k : Int) + 1) 5 = _ at hb
    rw [lay_succ, ha, hb, get_other (by omega), get_other (by omega)]
    exact lay_head g hT hS hL k (by omega)
/-- What a slot's word Succ holds. -/
theorem lay_get {T S L : Nat} (g : Int) (hT : T ≤ 8) (hS : S ≤ 64) (hL : L ≤ 8) {i : Nat} (hi : 1 ≤ i) (hiS : i ≤ S) : ∀ k, k ≤ S → getI (layL (wordsN T S L) T S L g k) (atI T L (i : Int) 5) = if i ≤ k then belowI S (i : Int) else 0
  | 0, _ => by
    obtain ⟨a, ha, _, ha4, hal⟩ := at_nat (a := 5) hT hS hL hi hiS (by omega)
    change atI T L (i : Int) 5 = _ at ha
    rw [ha, if_neg (by omega), lay_zero]
    unfold headL
    rw [get_other (by omega), get_other (by omega)]
    exact getI_some (by rw [List.getElem?_replicate, if_pos hal])
  | k + 1, hk => by
    obtain ⟨a, ha, ea, ha4, hal⟩ := at_nat (a := 5) hT hS hL hi hiS (by omega)
    obtain ⟨b, hb, eb, hb4, hbl⟩ := at_nat (a := 0) hT hS hL (show 1 ≤ k + 1 by omega) hk (by omega)
    obtain ⟨c, hc, ec, hc4, hcl⟩ := at_nat (a := 5) hT hS hL (show 1 ≤ k + 1 by omega) hk (by omega)
    have ih := lay_get g hT hS hL hi hiS k (by omega)
    simp only [Int.natCast_add, Int.natCast_one] at hb hc
    change atI T L (i : Int) 5 = _ at ha
    change atI T L ((k : Int) + 1) 0 = _ at hb
    change atI T L ((k : Int) + 1) 5 = _ at hc
    rw [ha] at ih
    rw [lay_succ, ha, hb, hc]
    by_cases e : i = k + 1
    · subst e
      have eac : a = c := by omega
      subst eac
      rw [get_set ?_, if_pos (by omega)]
      · simp
      · unfold there
        rw [setI_length, lay_length]
        omega
    · have n1 : atN T L (k + 1) 5 ≠ atN T L i 5 := at_apart (by omega) hi (by omega) (by omega) (by omega)
      have n2 : atN T L (k + 1) 0 ≠ atN T L i 5 := at_apart (by omega) hi (by omega) (by omega) (by omega)
      rw [get_other (by omega), get_other (by omega), ih]
      by_cases h2 : i ≤ k
      · rw [if_pos h2, if_pos (by omega)]
      · rw [if_neg h2, if_neg (by omega)]
/-- Below the last slot there is none: its word Succ is 0 as it is. -/
theorem lay_last {T S L : Nat} (g : Int) (hT : T ≤ 8) (hS : S ≤ 64) (hL : L ≤ 8) (k : Nat) (h : k + 1 = S) :
    layL (wordsN T S L) T S L g (k + 1) = setI (layL (wordsN T S L) T S L g k) (atI T L ((k : Int) + 1) 0) g := by
  have h0 := lay_get g hT hS hL (i := k + 1) (by omega) (by omega) k (by omega)
  obtain ⟨b, hb, eb, hb4, hbl⟩ := at_nat (a := 0) hT hS hL (show 1 ≤ k + 1 by omega) (show k + 1 ≤ S by omega) (by omega)
  obtain ⟨c, hc, ec, hc4, hcl⟩ := at_nat (a := 5) hT hS hL (show 1 ≤ k + 1 by omega) (show k + 1 ≤ S by omega) (by omega)
  simp only [Int.natCast_add, Int.natCast_one] at hb hc h0
  change atI T L ((k : Int) + 1) 0 = _ at hb
  change atI T L ((k : Int) + 1) 5 = _ at hc
  rw [if_neg (by omega), hc] at h0
  have n1 : atN T L (k + 1) 0 ≠ atN T L (k + 1) 5 := at_apart (by omega) (by omega) (by omega) (by omega) (by omega)
  rw [lay_succ, hb, hc, below_none (by omega)]
  have h1 : getI (setI (layL (wordsN T S L) T S L g k) (b : Int) g) (c : Int) = 0 := by rw [get_other (by omega)]; exact h0
  have h2 := set_get (setI (layL (wordsN T S L) T S L g k) (b : Int) g) (c : Int)
  rwa [h1] at h2

/-! The free slots. -/
/-- From a list on, by what is below each slot. -/
def goF (S : Int) (nx : Int → Int) : Nat → List Int → Int → List Int
  | 0, out, _ => out
  | f + 1, out, b => if 1 ≤ b ∧ b ≤ S ∧ b ∉ out then goF S nx f (out ++ [b]) (nx b) else out
theorem go_zero (S : Int) (nx : Int → Int) (out : List Int) (b : Int) : goF S nx 0 out b = out := rfl
theorem go_stop {S : Int} {nx : Int → Int} {f : Nat} {out : List Int} {b : Int} (h : ¬ (1 ≤ b ∧ b ≤ S ∧ b ∉ out)) : goF S nx f out b = out := by
  cases f with
  | zero => rfl
  | succ f => exact if_neg h
theorem go_step {S : Int} {nx : Int → Int} {f : Nat} {out : List Int} {b : Int} (h : 1 ≤ b ∧ b ≤ S ∧ b ∉ out) : goF S nx (f + 1) out b = goF S nx f (out ++ [b]) (nx b) := if_pos h
theorem go_clip {S : Int} (hS : S ≤ 64) (nx : Int → Int) (f : Nat) (out : List Int) {b : Int} (h : ¬ b ≤ 64) : goF S nx f out b = goF S nx f out 0 := by
  rw [go_stop (by omega), go_stop (by omega)]

/-- Slots that there are, no two one. -/
def Good (S : Nat) (out : List Int) : Prop := out.Nodup ∧ ∀ x ∈ out, 1 ≤ x ∧ x ≤ (S : Int)
theorem good_nil (S : Nat) : Good S [] := ⟨List.nodup_nil, by simp⟩
theorem good_snoc {S : Nat} {out : List Int} {b : Int} (h : Good S out) (hb : 1 ≤ b ∧ b ≤ (S : Int) ∧ b ∉ out) : Good S (out ++ [b]) := by
  refine ⟨?_, ?_⟩
  · rw [List.nodup_append]
    refine ⟨h.1, by simp, ?_⟩
    intro x hx y hy e
    simp at hy
    subst hy
    subst e
    exact hb.2.2 hx
  · intro x hx
    rw [List.mem_append] at hx
    rcases hx with hx | hx
    · exact h.2 x hx
    · simp at hx
      subst hx
      exact ⟨hb.1, hb.2.1⟩
theorem good_len : ∀ (S : Nat) (out : List Int), Good S out → out.length ≤ S
  | 0, out, h => by
    cases out with
    | nil => simp
    | cons x l =>
      have := h.2 x (by simp)
      omega
  | S + 1, out, h => by
    have hg : Good S (out.erase ((S : Int) + 1)) := by
      refine ⟨h.1.erase _, fun x hx => ?_⟩
      have h1 := (h.1.mem_erase_iff).1 hx
      have h2 := h.2 x h1.2
      have h3 := h1.1
      omega
    have ih := good_len S _ hg
    by_cases hm : ((S : Int) + 1) ∈ out
    · rw [List.length_erase_of_mem hm] at ih
      omega
    · rw [List.erase_of_not_mem hm] at ih
      omega
/-- Where all stand already, none is left. -/
theorem good_full {S : Nat} {out : List Int} {b : Int} (h : Good S out) (hl : out.length = S) : ¬ (1 ≤ b ∧ b ≤ (S : Int) ∧ b ∉ out) := fun hb => by
  have := good_len S _ (good_snoc h hb)
  simp at this
  omega
theorem go_good {S : Nat} {nx : Int → Int} : ∀ (f : Nat) (out : List Int) (b : Int), Good S out → Good S (goF (S : Int) nx f out b)
  | 0, _, _, h => h
  | f + 1, out, b, h => by
    by_cases hb : 1 ≤ b ∧ b ≤ (S : Int) ∧ b ∉ out
    · rw [go_step hb]
      exact go_good f _ _ (good_snoc h hb)
    · rw [go_stop hb]
      exact h

/-- The free slots that the words tell. -/
def freeL (T : Int) (S : Nat) (L : Int) (l : List Int) : List Int := goF (S : Int) (fun i => getI l (atI T L i 5)) S [] (getI l 3 % 4294967296)
theorem free_length (T : Int) (S : Nat) (L : Int) (l : List Int) : (freeL T S L l).length ≤ S := good_len S _ (go_good _ _ _ (good_nil S))

/-- Slots 1 to k. -/
def firstL (k : Nat) : List Int := (List.range k).map fun i : Nat => (i : Int) + 1
theorem first_succ (k : Nat) : firstL (k + 1) = firstL k ++ [(k : Int) + 1] := by simp [firstL, List.range_succ]
theorem first_length (k : Nat) : (firstL k).length = k := by simp [firstL]
theorem first_get {k i : Nat} (h : i < k) : (firstL k)[i]? = some ((i : Int) + 1) := by simp [firstL, h]
theorem first_not (k : Nat) : ((k : Int) + 1) ∉ firstL k := by
  intro h
  simp only [firstL, List.mem_map, List.mem_range] at h
  obtain ⟨i, hi, e⟩ := h
  omega
theorem go_first {S : Nat} {nx : Int → Int} (hn : ∀ i : Nat, 1 ≤ i → i ≤ S → nx (i : Int) = belowI (S : Int) (i : Int)) : ∀ (f k : Nat), k + f = S → goF (S : Int) nx f (firstL k) (if k < S then (k : Int) + 1 else 0) = firstL S
  | 0, k, h => by
    rw [go_zero]
    congr 1
  | f + 1, k, h => by
    rw [if_pos (by omega), go_step ⟨by omega, by omega, first_not k⟩, ← first_succ]
    have h1 := hn (k + 1) (by omega) (by omega)
    have ih := go_first hn f (k + 1) (by omega)
    rw [Int.natCast_add, Int.natCast_one] at h1
    rw [h1]
    by_cases h2 : k + 1 < S
    · rw [below_some (by omega)]
      rw [if_pos h2] at ih
      simpa using ih
    · rw [below_none (by omega)]
      rwa [if_neg h2] at ih
/-- At the beginning each slot is free once. -/
theorem free_all {T S L : Nat} (g : Int) (hT : T ≤ 8) (hS1 : 1 ≤ S) (hS : S ≤ 64) (hL : L ≤ 8) : freeL (T : Int) S (L : Int) (layL (wordsN T S L) T S L g S) = firstL S := by
  have h := go_first (S := S) (nx := fun i => getI (layL (wordsN T S L) T S L g S) (atI T L i 5)) (fun i h1 h2 => by
    show getI _ (atI T L (i : Int) 5) = _
    rw [lay_get g hT hS hL h1 h2 S (Nat.le_refl _), if_pos h2]) S 0 (by omega)
  rw [if_pos (by omega)] at h
  unfold freeL
  rw [lay_head g hT hS hL S (Nat.le_refl _)]
  exact h
end Go.Proofs.YtjbfhnkjcfpfpaaDoor.BM
