/- A seeker at its end has found one for each level, and all that it found are words. No program is named. -/
import Derived.Test.YtjefjkpomohpiaaGreatDoorSeekMath
namespace Go.Proofs.YtjefjkpomohpiaaGreatDoor.KM
set_option maxRecDepth 20000
open DM PM CM Runs
open Go.RowKit (wrap64)
set_option linter.unusedVariables false
set_option linter.unusedSimpArgs false

def Word (x : Int) : Prop := 0 ≤ x ∧ x < 18446744073709551616
/-- How many it has found, of L levels. -/
structure Full (L : Int) (s : St) : Prop where
  lv : 0 ≤ s.lv
  amid : ¬ s.st = 0 → (s.ps.length : Int) + s.lv + 1 = L
  done : s.st = 0 → (s.ps.length : Int) = L
  ps : ∀ x ∈ s.ps, Word x
  ss : ∀ x ∈ s.ss, Word x
section
variable {L lv pr cu nx r : Int} {ps ss : List Int} {b : Bool}
theorem desc_full (hl : 0 ≤ lv) (he : (ps.length : Int) + lv = L) (h1 : ∀ x ∈ ps, Word x) (h2 : ∀ x ∈ ss, Word x) : Full L (desc lv pr cu nx ps ss) := by
  unfold desc
  split
  · exact ⟨hl, fun h => absurd rfl h, fun _ => (by show (ps.length : Int) = L; omega), h1, h2⟩
  · exact ⟨by show 0 ≤ lv - 1; omega, fun _ => (by show (ps.length : Int) + (lv - 1) + 1 = L; omega), fun h => (by cases h), h1, h2⟩
theorem anew_full (hL : 0 ≤ L) : Full L (anew L cu nx) := desc_full hL (by simp) (fun x h => (by cases h)) (fun x h => (by cases h))
theorem snoc_words {x : Int} (h : ∀ y ∈ ps, Word y) (hx : Word x) : ∀ y ∈ ps ++ [x], Word y := by
  intro y hy
  rw [List.mem_append, List.mem_singleton] at hy
  rcases hy with hy | rfl
  · exact h y hy
  · exact hx
theorem find_full {x : Int} (hl : 0 ≤ lv) (he : (ps.length : Int) + lv + 1 = L) (h1 : ∀ x ∈ ps, Word x) (h2 : ∀ x ∈ ss, Word x) (hp : Word pr) (hx : Word x) : Full L (find lv pr cu nx ps ss x) :=
  desc_full hl (by simp; omega) (snoc_words h1 hp) (snoc_words h2 hx)
theorem reach_full (hl : 0 ≤ lv) (he : (ps.length : Int) + lv + 1 = L) (h1 : ∀ x ∈ ps, Word x) (h2 : ∀ x ∈ ss, Word x) (hp : Word pr) : Full L (reach lv pr cu nx ps ss r) := by
  unfold reach
  split
  · exact find_full hl he h1 h2 hp (by unfold Word; omega)
  · exact ⟨hl, fun _ => he, fun h => (by cases h), h1, h2⟩
theorem pass_full (hl : 0 ≤ lv) (he : (ps.length : Int) + lv + 1 = L) (h1 : ∀ x ∈ ps, Word x) (h2 : ∀ x ∈ ss, Word x) (hp : Word pr) (hc : Word cu) : Full L (pass lv pr cu nx ps ss b) := by
  unfold pass
  split
  · exact reach_full hl he h1 h2 hc
  · exact find_full hl he h1 h2 hp hc
end
theorem seekT_full {k : Nat} {L dl sq f : Int} {s : St} (h : Ok k s) (hF : Full L s) (hL : 0 ≤ L) : Full L (seekT L dl sq s f) := by
  obtain ⟨h1, h2, h3, h4, h5, h6, h7⟩ := h
  by_cases h0 : s.st = 0
  · rw [show seekT L dl sq s f = s by simp [seekT, h0]]
    exact hF
  · obtain ⟨f1, f2, -, f4, f5⟩ := hF
    have f2 := f2 h0
    unfold seekT
    split
    · split
      · exact anew_full hL
      · exact reach_full f1 f2 f4 f5 h3
    · split
      · exact ⟨f1, fun _ => f2, fun h => (by simp only at h; split at h <;> cases h), f4, f5⟩
      · split
        · split
          · exact reach_full f1 f2 f4 f5 h3
          · exact anew_full hL
        · split
          · split
            · exact ⟨f1, fun _ => f2, fun h => (by cases h), f4, f5⟩
            · exact pass_full f1 f2 f4 f5 h3 h4
          · split
            · exact pass_full f1 f2 f4 f5 h3 h4
            · exact ⟨f1, fun _ => f2, fun h => absurd h h0, f4, f5⟩
theorem seekA_none {k : Nat} {T L : Int} {s : St} (h : Ok k s) : seekA T L s = none ↔ s.st = 0 := by
  constructor
  · intro h0
    unfold seekA at h0
    rcases h.st with e | e | e | e | e | e
    · exact e
    all_goals simp [e] at h0
  · intro e
    simp [seekA, e]
end Go.Proofs.YtjefjkpomohpiaaGreatDoor.KM
