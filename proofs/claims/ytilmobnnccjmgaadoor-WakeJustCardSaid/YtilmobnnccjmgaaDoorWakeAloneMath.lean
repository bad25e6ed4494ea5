/- A waker done alone to a memory in which some threads sleep: just the semaphores of those go up, by one, who sleep till a later deadline. No program is named. -/
import Derived.Test.YtilmobnnccjmgaaDoorWakeMath
namespace Go.Proofs.YtilmobnnccjmgaaDoor.WkM
set_option maxRecDepth 20000
open DM PM CM BM MM Runs
set_option linter.unusedVariables false
set_option linter.unusedSimpArgs false

def never : Int := 1152921504606846977
/-- The first k threads' words of sleeping laid. -/
def layS (T : Int) (l : List Int) (zs : List Int) : Nat → List Int
  | 0 => l
  | k + 1 => if 0 ≤ zs.getD k 0 ∧ zs.getD k 0 ≤ never then setI (layS T l zs k) (ofI T 1 (k : Int)) (zs.getD k 0 + 1) else layS T l zs k
theorem layS_zero (T : Int) (l zs : List Int) : layS T l zs 0 = l := rfl
theorem layS_yes {T : Int} {l zs : List Int} {k : Nat} (h : 0 ≤ zs.getD k 0 ∧ zs.getD k 0 ≤ never) : layS T l zs (k + 1) = setI (layS T l zs k) (ofI T 1 (k : Int)) (zs.getD k 0 + 1) := if_pos h
theorem layS_no {T : Int} {l zs : List Int} {k : Nat} (h : ¬ (0 ≤ zs.getD k 0 ∧ zs.getD k 0 ≤ never)) : layS T l zs (k + 1) = layS T l zs k := if_neg h
theorem layS_length (T : Int) (l zs : List Int) : ∀ k, (layS T l zs k).length = l.length
  | 0 => rfl
  | k + 1 => by
    by_cases h : 0 ≤ zs.getD k 0 ∧ zs.getD k 0 ≤ never
    · rw [layS_yes h, setI_length, layS_length T l zs k]
    · rw [layS_no h, layS_length T l zs k]
theorem layS_fits {l zs : List Int} (T : Int) (h : BM.Fits l) : ∀ k, BM.Fits (layS T l zs k)
  | 0 => h
  | k + 1 => by
    by_cases e : 0 ≤ zs.getD k 0 ∧ zs.getD k 0 ≤ never
    · rw [layS_yes e]
      exact fits_set (layS_fits T h k) _ (by unfold never at e; omega)
    · rw [layS_no e]
      exact layS_fits T h k
/-- What stands there: the thread's word of sleeping. -/
def slept (z : Int) : Int := if 0 ≤ z ∧ z ≤ never then z + 1 else 0
theorem layS_get {T S L : Nat} {l : List Int} (zs : List Int) (hT : T ≤ 8) (hl : l.length = wordsN T S L) (h0 : ∀ j, j < T → getI l (ofI (T : Int) 1 (j : Int)) = 0) : ∀ k, k ≤ T →
    (∀ j, j < k → getI (layS (T : Int) l zs k) (ofI (T : Int) 1 (j : Int)) = slept (zs.getD j 0)) ∧ ∀ j, k ≤ j → j < T → getI (layS (T : Int) l zs k) (ofI (T : Int) 1 (j : Int)) = 0
  | 0, _ => ⟨fun j h => by omega, fun j _ h => h0 j h⟩
  | k + 1, hk => by
    obtain ⟨h1, h2⟩ := layS_get zs hT hl h0 k (by omega)
    have hof : ∀ j : Nat, j < T → ofI (T : Int) 1 (j : Int) = ((4 + 1 * T + j : Nat) : Int) ∧ 4 + 1 * T + j < wordsN T S L := fun j hj => by
      have := of_nat (S := S) (L := L) (n := 1) hT (by omega) hj
      exact ⟨by simpa using this.1, this.2.2.2⟩
    by_cases e : 0 ≤ zs.getD k 0 ∧ zs.getD k 0 ≤ never
    · rw [layS_yes e, (hof k (by omega)).1]
      refine ⟨fun j hj => ?_, fun j hj hj2 => ?_⟩
      · by_cases ej : j = k
        · subst ej
          rw [(hof j (by omega)).1, get_set (there_in (by rw [layS_length]; exact hl) (hof j (by omega)).2)]
          unfold slept
          rw [if_pos e]
        · have h3 := h1 j (by omega)
          rw [(hof j (by omega)).1] at h3 ⊢
          rw [get_other (by omega)]
          exact h3
      · have h3 := h2 j (by omega) hj2
        rw [(hof j hj2).1] at h3 ⊢
        rw [get_other (by omega)]
        exact h3
    · rw [layS_no e]
      refine ⟨fun j hj => ?_, fun j hj hj2 => h2 j (by omega) hj2⟩
      by_cases ej : j = k
      · subst ej
        rw [h2 j (Nat.le_refl _) (by omega)]
        unfold slept
        rw [if_neg e]
      · exact h1 j (by omega)
/-- Is one woken? -/
def wokenB (dl z : Int) : Bool := decide (dl < z ∧ z ≤ never)
theorem due_slept {dl z : Int} (h0 : 0 ≤ dl) (h1 : dl ≤ 1152921504606846976) : dueW dl < slept z ↔ wokenB dl z = true := by
  unfold dueW slept wokenB
  rw [decide_eq_true_eq]
  unfold never
  split <;> omega
/-- The first k threads' semaphores gone up. -/
def semL (T dl : Int) (l : List Int) (zs : List Int) : Nat → List Int
  | 0 => l
  | k + 1 => if wokenB dl (zs.getD k 0) = true then addI (semL T dl l zs k) (ofI T 2 (k : Int)) 1 else semL T dl l zs k
theorem semL_zero (T dl : Int) (l zs : List Int) : semL T dl l zs 0 = l := rfl
theorem semL_yes {T dl : Int} {l zs : List Int} {k : Nat} (h : wokenB dl (zs.getD k 0) = true) : semL T dl l zs (k + 1) = addI (semL T dl l zs k) (ofI T 2 (k : Int)) 1 := if_pos h
theorem semL_no {T dl : Int} {l zs : List Int} {k : Nat} (h : wokenB dl (zs.getD k 0) = false) : semL T dl l zs (k + 1) = semL T dl l zs k := if_neg (by rw [h]; simp)
theorem semL_length (T dl : Int) (l zs : List Int) : ∀ k, (semL T dl l zs k).length = l.length
  | 0 => rfl
  | k + 1 => by
    cases h : wokenB dl (zs.getD k 0) with
    | true => rw [semL_yes h, addI_length, semL_length T dl l zs k]
    | false => rw [semL_no h, semL_length T dl l zs k]
theorem semL_fits {l zs : List Int} (T dl : Int) (h : BM.Fits l) : ∀ k, BM.Fits (semL T dl l zs k)
  | 0 => h
  | k + 1 => by
    cases e : wokenB dl (zs.getD k 0) with
    | true =>
      rw [semL_yes e]
      unfold addI
      exact fits_set (semL_fits T dl h k) _ (by omega)
    | false =>
      rw [semL_no e]
      exact semL_fits T dl h k
theorem semL_sleep {T S L : Nat} {l : List Int} (dl : Int) (zs : List Int) (hT : T ≤ 8) {j : Nat} (hj : j < T) : ∀ k, k ≤ T → getI (semL (T : Int) dl l zs k) (ofI (T : Int) 1 (j : Int)) = getI l (ofI (T : Int) 1 (j : Int))
  | 0, _ => rfl
  | k + 1, hk => by
    have h1 := semL_sleep (S := S) (L := L) (l := l) dl zs hT hj k (by omega)
    cases e : wokenB dl (zs.getD k 0) with
    | true =>
      rw [semL_yes e]
      unfold addI
      have h2 := (of_nat (S := S) (L := L) (n := 1) hT (by omega) hj).1
      have h3 := (of_nat (S := S) (L := L) (n := 2) hT (by omega) (show k < T by omega)).1
      simp only [Int.natCast_one] at h2
      rw [show ((2 : Nat) : Int) = 2 from rfl] at h3
      rw [get_other (by rw [h2, h3]; omega)]
      exact h1
    | false =>
      rw [semL_no e]
      exact h1
theorem wake_from {T S L : Nat} {l zs : List Int} {dl : Int} (hT : T ≤ 8) (h0 : 0 ≤ dl) (h1 : dl ≤ 1152921504606846976) (hg : ∀ j, j < T → getI l (ofI (T : Int) 1 (j : Int)) = slept (zs.getD j 0)) : ∀ (m k : Nat), k + m = T →
    ∃ K, K ≤ 2 * m ∧ steps (wakeA (T : Int)) (wakeT (T : Int) dl) K (semL (T : Int) dl l zs k) ⟨(k : Int), false⟩ = some (semL (T : Int) dl l zs T, ⟨(T : Int), false⟩)
  | 0, k, hk => by
    obtain rfl : k = T := by omega
    exact ⟨0, Nat.le_refl _, rfl⟩
  | m + 1, k, hk => by
    obtain ⟨K, hK, hs⟩ := wake_from (S := S) (L := L) hT h0 h1 hg m (k + 1) (by omega)
    have hlt : (k : Int) < (T : Int) := by omega
    have hsl : getI (semL (T : Int) dl l zs k) (ofI (T : Int) 1 (k : Int)) = slept (zs.getD k 0) := by rw [semL_sleep (S := S) (L := L) dl zs hT (by omega) k (by omega)]; exact hg k (by omega)
    rw [show ((k + 1 : Nat) : Int) = (k : Int) + 1 by omega] at hs
    cases e : wokenB dl (zs.getD k 0) with
    | true =>
      refine ⟨K + 1 + 1, by omega, ?_⟩
      rw [steps_more (wakeA_look hlt), nextD_1, foundD_yes (by simp)]
      simp only
      rw [hsl, wakeT_long hlt ((due_slept h0 h1).2 e), steps_more (wakeA_add hlt), nextD_4, wakeT_add hlt, ← semL_yes e]
      exact hs
    | false =>
      refine ⟨K + 1, by omega, ?_⟩
      rw [steps_more (wakeA_look hlt), nextD_1, foundD_yes (by simp)]
      simp only
      rw [hsl, wakeT_not hlt (fun q => by rw [(due_slept h0 h1).1 q] at e; cases e), ← semL_no e]
      exact hs
/-- All that the law asks. -/
theorem wake_alone {T S L : Nat} {l zs : List Int} {dl : Int} (hT : T ≤ 8) (hl : l.length = wordsN T S L) (hz : ∀ j, j < T → getI l (ofI (T : Int) 1 (j : Int)) = 0) (h0 : 0 ≤ dl) (h1 : dl ≤ 1152921504606846976) :
    ∃ K, K ≤ 16 ∧ steps (wakeA (T : Int)) (wakeT (T : Int) dl) K (layS (T : Int) l zs T) start = some (semL (T : Int) dl (layS (T : Int) l zs T) zs T, ⟨(T : Int), false⟩) ∧ wakeA (T : Int) ⟨(T : Int), false⟩ = none := by
  obtain ⟨K, hK, hs⟩ := wake_from (S := S) (L := L) (l := layS (T : Int) l zs T) (zs := zs) hT h0 h1 (fun j hj => (layS_get (S := S) (L := L) zs hT hl hz T (Nat.le_refl _)).1 j hj) T 0 (by omega)
  exact ⟨K, by omega, hs, wakeA_done (by omega)⟩
end Go.Proofs.YtilmobnnccjmgaaDoor.WkM
