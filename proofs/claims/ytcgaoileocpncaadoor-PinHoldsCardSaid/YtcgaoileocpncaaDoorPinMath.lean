/- Threads pinned in an epoch, in plain arithmetic. No program is named. -/
import Derived.Test.YtcgaoileocpncaaDoorRuns
import Derived.Test.YtcgaoileocpncaaDoorPlanMath
namespace Go.Proofs.YtcgaoileocpncaaDoor.PiM
open DM PM CM Runs

/-- A task that writes a thread's word Pin: its step (0 done, 1 looks, 2 writes), where the word is, what is written. -/
structure St where
  st : Int
  pl : Int
  word : Int
def Ok (s : St) : Prop := (s.st = 0 ∨ s.st = 1 ∨ s.st = 2) ∧ 0 ≤ s.word ∧ s.word < 18446744073709551616
def pinA (s : St) : Option D := if s.st = 1 then some (1, 0, 0, 0, 0) else if s.st = 2 then some (2, s.pl, s.word, 0, 0) else none
def pinT (s : St) (f : Int) : St := if s.st = 1 then ⟨2, s.pl, f⟩ else ⟨0, s.pl, s.word⟩
def pinE (s : St) : Int := if s.st = 0 then s.word else 0

theorem pinA_0 (a w : Int) : pinA ⟨0, a, w⟩ = none := by simp [pinA]
theorem pinA_1 (a w : Int) : pinA ⟨1, a, w⟩ = some (1, 0, 0, 0, 0) := by simp [pinA]
theorem pinA_2 (a w : Int) : pinA ⟨2, a, w⟩ = some (2, a, w, 0, 0) := by simp [pinA]
theorem pinT_0 (a w f : Int) : pinT ⟨0, a, w⟩ f = ⟨0, a, w⟩ := by simp [pinT]
theorem pinT_1 (a w f : Int) : pinT ⟨1, a, w⟩ f = ⟨2, a, f⟩ := by simp [pinT]
theorem pinT_2 (a w f : Int) : pinT ⟨2, a, w⟩ f = ⟨0, a, w⟩ := by simp [pinT]
theorem pinE_0 (a w : Int) : pinE ⟨0, a, w⟩ = w := by simp [pinE]
theorem pinE_n {s : St} (h : ¬ s.st = 0) : pinE s = 0 := if_neg h
theorem ok_1 (a : Int) : Ok ⟨1, a, 0⟩ := ⟨.inr (.inl rfl), by show (0 : Int) ≤ 0; omega, by show (0 : Int) < _; omega⟩
theorem ok_2 (a : Int) : Ok ⟨2, a, 0⟩ := ⟨.inr (.inr rfl), by show (0 : Int) ≤ 0; omega, by show (0 : Int) < _; omega⟩
theorem pinT_ok {s : St} (h : Ok s) {f : Int} (hf : 0 ≤ f ∧ f < 18446744073709551616) : Ok (pinT s f) := by
  obtain ⟨h1, h2⟩ := h
  unfold pinT
  split
  · exact ⟨.inr (.inr rfl), hf⟩
  · exact ⟨.inl rfl, h2⟩
end Go.Proofs.YtcgaoileocpncaaDoor.PiM
