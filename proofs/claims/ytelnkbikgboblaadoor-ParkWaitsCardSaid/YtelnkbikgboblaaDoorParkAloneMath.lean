/- A parker done alone: in two steps, if the semaphore is not 0, or the time has come; else it goes on, and no word turns. No program is named. -/
import Derived.Test.YtelnkbikgboblaaDoorParkMath
namespace Go.Proofs.YtelnkbikgboblaaDoor.PaM
set_option maxRecDepth 20000
open DM PM CM BM MM Runs
open Go.RowKit (wrap64)
set_option linter.unusedVariables false
set_option linter.unusedSimpArgs false

/-- The words that the law lays: the thread's semaphore, and the clock. -/
def laidP (l : List Int) (p sem now : Int) : List Int := setI (setI l p sem) 1 now
theorem laidP_length (l : List Int) (p sem now : Int) : (laidP l p sem now).length = l.length := by unfold laidP; rw [setI_length, setI_length]
theorem laidP_fits {l : List Int} (h : BM.Fits l) (p : Int) {sem now : Int} (hs : 0 ≤ sem ∧ sem < 18446744073709551616) (hn : 0 ≤ now ∧ now ≤ 9223372036854775807) : BM.Fits (laidP l p sem now) := fits_set (fits_set h _ hs) _ (by omega)
theorem laidP_get {T S L k : Nat} {l : List Int} (sem now : Int) (hT : T ≤ 8) (hk : k < T) (hl : l.length = wordsN T S L) : getI (laidP l (ofI (T : Int) 2 (k : Int)) sem now) (ofI (T : Int) 2 (k : Int)) = sem ∧ getI (laidP l (ofI (T : Int) 2 (k : Int)) sem now) 1 = now := by
  have h := of_nat (S := S) (L := L) (n := 2) hT (by omega) hk
  have h2 := h.1
  rw [show ((2 : Nat) : Int) = 2 from rfl] at h2
  unfold laidP
  rw [h2]
  refine ⟨?_, ?_⟩
  · rw [get_other (by omega)]
    exact get_set (there_in hl h.2.2.2) _
  · exact get_set (there_in (j := 1) (by rw [setI_length]; exact hl) (by unfold wordsN; omega)) _
section
variable {l : List Int} {p un sem now : Int}
/-- It takes from the semaphore: two steps. -/
theorem park_take (hg : getI l p = sem) (h0 : ¬ sem = 0) : steps (parkA p) (parkT un) 2 l start = some (addI l p 18446744073709551615, ⟨0⟩) := by
  unfold start
  rw [show (2 : Nat) = 1 + 1 from rfl, steps_more parkA_1, nextD_1, foundD_yes (by simp)]
  simp only
  rw [hg, parkT_1 h0, show (1 : Nat) = 0 + 1 from rfl, steps_more parkA_2, nextD_4, parkT_2]
  rfl
/-- The time has come: two steps. -/
theorem park_late (hg : getI l p = 0) (hc : getI l 1 = now) (h : un ≤ wrap64 now) : steps (parkA p) (parkT un) 2 l start = some (l, ⟨0⟩) := by
  unfold start
  rw [show (2 : Nat) = 1 + 1 from rfl, steps_more parkA_1, nextD_1, foundD_yes (by simp)]
  simp only
  rw [hg, parkT_1z, show (1 : Nat) = 0 + 1 from rfl, steps_more parkA_3, nextD_1, foundD_yes (by simp)]
  simp only
  rw [hc, parkT_3 h]
  rfl
/-- It waits: one step of it, and another one. -/
theorem park_wait1 (hg : getI l p = 0) : nextD l (1, p, 0, 0, 0) = l ∧ parkT un ⟨1⟩ (foundD l (1, p, 0, 0, 0)) = ⟨3⟩ := by
  refine ⟨nextD_1 _ _ _ _ _, ?_⟩
  rw [foundD_yes (by simp)]
  simp only
  rw [hg, parkT_1z]
theorem park_wait3 (hc : getI l 1 = now) (h : ¬ un ≤ wrap64 now) : nextD l (1, 1, 0, 0, 0) = l ∧ parkT un ⟨3⟩ (foundD l (1, 1, 0, 0, 0)) = ⟨1⟩ := by
  refine ⟨nextD_1 _ _ _ _ _, ?_⟩
  rw [foundD_yes (by simp)]
  simp only
  rw [hc, parkT_3n h]
/-- It waits, whatever many steps. -/
theorem park_early (hg : getI l p = 0) (hc : getI l 1 = now) (h : ¬ un ≤ wrap64 now) : ∀ m : Nat, steps (parkA p) (parkT un) (2 * m) l start = some (l, start)
  | 0 => rfl
  | m + 1 => by
    unfold start
    rw [show 2 * (m + 1) = (2 * m + 1) + 1 by omega, steps_more parkA_1, (park_wait1 (un := un) hg).1, (park_wait1 (un := un) hg).2, steps_more parkA_3, (park_wait3 hc h).1, (park_wait3 hc h).2]
    exact park_early hg hc h m
/-- All that comes of it: it takes, or its time has come (two steps), or it goes on. -/
theorem park_all (hg : getI l p = sem) (hc : getI l 1 = now) (hn : 0 ≤ now ∧ now ≤ 9223372036854775807) : ∃ K lf sf, steps (parkA p) (parkT un) K l start = some (lf, sf) ∧
    ((K = 2 ∧ parkA p sf = none ∧ ((¬ sem = 0 ∧ lf = addI l p 18446744073709551615) ∨ (sem = 0 ∧ un ≤ now ∧ lf = l))) ∨ (K = 20 ∧ ¬ parkA p sf = none ∧ sem = 0 ∧ now < un ∧ lf = l)) := by
  have hw : wrap64 now = now := by unfold wrap64; omega
  by_cases h0 : sem = 0
  · subst h0
    by_cases h1 : un ≤ now
    · exact ⟨2, _, _, park_late hg hc (by rw [hw]; exact h1), .inl ⟨rfl, parkA_0, .inr ⟨rfl, h1, rfl⟩⟩⟩
    · refine ⟨20, _, _, park_early hg hc (by rw [hw]; exact h1) 10, .inr ⟨rfl, ?_, rfl, by omega, rfl⟩⟩
      unfold start
      rw [parkA_1]
      simp
  · exact ⟨2, _, _, park_take hg h0, .inl ⟨rfl, parkA_0, .inl ⟨h0, rfl⟩⟩⟩
end
/-- One taken from a word that is not 0. -/
theorem less_one {x : Int} (h0 : 0 ≤ x) (h1 : x < 18446744073709551616) (h : ¬ x = 0) : (x + 18446744073709551615) % 18446744073709551616 = x - 1 := by omega
end Go.Proofs.YtelnkbikgboblaaDoor.PaM
