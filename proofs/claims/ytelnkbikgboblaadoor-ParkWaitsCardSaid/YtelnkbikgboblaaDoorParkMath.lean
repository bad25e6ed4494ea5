/- A thread waits, in plain arithmetic: what a parker asks for, and what it becomes. No program is named. -/
import Derived.Test.YtelnkbikgboblaaDoorRuns
import Derived.Test.YtelnkbikgboblaaDoorPlanMath
import Derived.Test.YtelnkbikgboblaaDoorMem
namespace Go.Proofs.YtelnkbikgboblaaDoor.PaM
set_option maxRecDepth 20000
open DM PM CM Runs
open Go.RowKit (wrap64)
set_option linter.unusedVariables false
set_option linter.unusedSimpArgs false

/-- A parker: its step (0 done, 1 looks at the semaphore, 2 takes from it, 3 looks at the clock). -/
structure St where
  st : Int
def start : St := ⟨1⟩
/-- The place is that of the thread's semaphore. -/
def parkA (at' : Int) (s : St) : Option D := if s.st = 1 then some (1, at', 0, 0, 0) else if s.st = 2 then some (4, at', 18446744073709551615, 0, 0) else if s.st = 3 then some (1, 1, 0, 0, 0) else none
def parkT (un : Int) (s : St) (f : Int) : St := if s.st = 1 then (if f = 0 then ⟨3⟩ else ⟨2⟩) else if s.st = 2 then ⟨0⟩ else if s.st = 3 then (if un ≤ wrap64 f then ⟨0⟩ else ⟨1⟩) else s
section
variable {p un f : Int}
theorem parkA_0 : parkA p ⟨0⟩ = none := by simp [parkA]
theorem parkA_1 : parkA p ⟨1⟩ = some (1, p, 0, 0, 0) := by simp [parkA]
theorem parkA_2 : parkA p ⟨2⟩ = some (4, p, 18446744073709551615, 0, 0) := by simp [parkA]
theorem parkA_3 : parkA p ⟨3⟩ = some (1, 1, 0, 0, 0) := by simp [parkA]
theorem parkT_0 : parkT un ⟨0⟩ f = ⟨0⟩ := by simp [parkT]
theorem parkT_1 (h : ¬ f = 0) : parkT un ⟨1⟩ f = ⟨2⟩ := by simp [parkT, h]
theorem parkT_1z : parkT un ⟨1⟩ 0 = ⟨3⟩ := by simp [parkT]
theorem parkT_2 : parkT un ⟨2⟩ f = ⟨0⟩ := by simp [parkT]
theorem parkT_3 (h : un ≤ wrap64 f) : parkT un ⟨3⟩ f = ⟨0⟩ := by simp [parkT, h]
theorem parkT_3n (h : ¬ un ≤ wrap64 f) : parkT un ⟨3⟩ f = ⟨1⟩ := by simp only [parkT, h]; simp
end
/-- Such a parker as there can be. -/
def Ok (s : St) : Prop := s.st = 0 ∨ s.st = 1 ∨ s.st = 2 ∨ s.st = 3
theorem start_ok : Ok start := .inr (.inl rfl)
theorem parkT_ok {un f : Int} {s : St} (h : Ok s) : Ok (parkT un s f) := by
  obtain ⟨st⟩ := s
  unfold Ok at h ⊢
  simp only at h
  rcases h with rfl | rfl | rfl | rfl
  · rw [parkT_0]; simp
  · by_cases e : f = 0
    · subst e; rw [parkT_1z]; simp
    · rw [parkT_1 e]; simp
  · rw [parkT_2]; simp
  · by_cases e : un ≤ wrap64 f
    · rw [parkT_3 e]; simp
    · rw [parkT_3n e]; simp
theorem parkA_fits {T t : Int} {s : St} {d : D} (hd : parkA (ofI T 2 t) s = some d) : DM.Fits d := by
  have h2 := MM.of_fits T 2 t
  unfold parkA at hd
  unfold DM.Fits
  repeat' (split at hd; · cases hd; simp only; omega)
  cases hd
end Go.Proofs.YtelnkbikgboblaaDoor.PaM
