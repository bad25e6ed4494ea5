/- Slots taken and given back, in plain arithmetic. No program is named. -/
import Derived.Test.YtcnbbflgccdfjaaRuns
import Derived.Test.YtcnbbflgccdfjaaPlanMath
namespace Go.Proofs.Ytcnbbflgccdfjaa.PoM
open DM PM CM Runs

/-- A task of the stack's: its step (0 done, 1 looks, 2 links, 3 turns), the head it found, what is below. -/
structure St where
  st : Int
  was : Int
  low : Int
def Ok (s : St) : Prop := (s.st = 0 ∨ s.st = 1 ∨ s.st = 2 ∨ s.st = 3) ∧ (0 ≤ s.was ∧ s.was < 18446744073709551616) ∧ 0 ≤ s.low ∧ s.low < 18446744073709551616
/-- The head that comes behind w, with v on top. -/
def turnI (w v : Int) : Int := (w / 4294967296 + 1) % 4294967296 * 4294967296 + v % 4294967296
theorem turn_lo (w v : Int) : 0 ≤ turnI w v ∧ turnI w v < 18446744073709551616 := by unfold turnI; omega
theorem turn_low (w v : Int) : turnI w v % 4294967296 = v % 4294967296 := by unfold turnI; omega
theorem turn_half (w v : Int) : turnI w (v % 4294967296) = turnI w v := by unfold turnI; omega

/-- Taking a slot. -/
def popA (T L : Int) (s : St) : Option D :=
  if s.st = 1 then some (1, 3, 0, 0, 0) else if s.st = 2 then some (1, atI T L (s.was % 4294967296) 5, 0, 0, 0) else if s.st = 3 then some (3, 3, s.was, turnI s.was s.low, 0) else none
def popT (s : St) (f : Int) : St :=
  if s.st = 1 then ⟨if f % 4294967296 = 0 then 0 else 2, f, s.low⟩ else if s.st = 2 then ⟨3, s.was, f⟩ else if s.st = 3 then ⟨if f = s.was then 0 else 1, s.was, s.low⟩ else ⟨0, s.was, s.low⟩
def popI (s : St) : Int := if s.st = 0 then s.was % 4294967296 else 0
/-- Giving one back. -/
def pushA (T L i : Int) (s : St) : Option D :=
  if s.st = 1 then some (1, 3, 0, 0, 0) else if s.st = 2 then some (2, atI T L i 5, s.was % 4294967296, 0, 0) else if s.st = 3 then some (3, 3, s.was, turnI s.was i, 0) else none
def pushT (s : St) (f : Int) : St :=
  if s.st = 1 then ⟨2, f, s.low⟩ else if s.st = 2 then ⟨3, s.was, s.low⟩ else if s.st = 3 then ⟨if f = s.was then 0 else 1, s.was, s.low⟩ else ⟨0, s.was, s.low⟩

theorem popA_0 (T L w b : Int) : popA T L ⟨0, w, b⟩ = none := by simp [popA]
theorem popA_1 (T L w b : Int) : popA T L ⟨1, w, b⟩ = some (1, 3, 0, 0, 0) := by simp [popA]
theorem popA_2 (T L w b : Int) : popA T L ⟨2, w, b⟩ = some (1, atI T L (w % 4294967296) 5, 0, 0, 0) := by simp [popA]
theorem popA_3 (T L w b : Int) : popA T L ⟨3, w, b⟩ = some (3, 3, w, turnI w b, 0) := by simp [popA]
theorem popT_0 (w b f : Int) : popT ⟨0, w, b⟩ f = ⟨0, w, b⟩ := by simp [popT]
theorem popT_1n {w b f : Int} (h : f % 4294967296 = 0) : popT ⟨1, w, b⟩ f = ⟨0, f, b⟩ := by simp [popT, h]
theorem popT_1 {w b f : Int} (h : ¬ f % 4294967296 = 0) : popT ⟨1, w, b⟩ f = ⟨2, f, b⟩ := by simp [popT, h]
theorem popT_2 (w b f : Int) : popT ⟨2, w, b⟩ f = ⟨3, w, f⟩ := by simp [popT]
theorem popT_3 (w b : Int) : popT ⟨3, w, b⟩ w = ⟨0, w, b⟩ := by simp [popT]
theorem popT_3n {w b f : Int} (h : ¬ f = w) : popT ⟨3, w, b⟩ f = ⟨1, w, b⟩ := by simp [popT, h]
theorem popI_0 (w b : Int) : popI ⟨0, w, b⟩ = w % 4294967296 := by simp [popI]
theorem popI_n {s : St} (h : ¬ s.st = 0) : popI s = 0 := if_neg h
theorem pushA_0 (T L i w b : Int) : pushA T L i ⟨0, w, b⟩ = none := by simp [pushA]
theorem pushA_1 (T L i w b : Int) : pushA T L i ⟨1, w, b⟩ = some (1, 3, 0, 0, 0) := by simp [pushA]
theorem pushA_2 (T L i w b : Int) : pushA T L i ⟨2, w, b⟩ = some (2, atI T L i 5, w % 4294967296, 0, 0) := by simp [pushA]
theorem pushA_3 (T L i w b : Int) : pushA T L i ⟨3, w, b⟩ = some (3, 3, w, turnI w i, 0) := by simp [pushA]
theorem pushT_0 (w b f : Int) : pushT ⟨0, w, b⟩ f = ⟨0, w, b⟩ := by simp [pushT]
theorem pushT_1 (w b f : Int) : pushT ⟨1, w, b⟩ f = ⟨2, f, b⟩ := by simp [pushT]
theorem pushT_2 (w b f : Int) : pushT ⟨2, w, b⟩ f = ⟨3, w, b⟩ := by simp [pushT]
theorem pushT_3 (w b : Int) : pushT ⟨3, w, b⟩ w = ⟨0, w, b⟩ := by simp [pushT]
theorem pushT_3n {w b f : Int} (h : ¬ f = w) : pushT ⟨3, w, b⟩ f = ⟨1, w, b⟩ := by simp [pushT, h]
theorem popT_ok {s : St} (h : Ok s) {f : Int} (hf : 0 ≤ f ∧ f < 18446744073709551616) : Ok (popT s f) := by
  obtain ⟨h1, h2, h3⟩ := h
  unfold popT
  split
  · refine ⟨?_, hf, h3⟩
    show (if f % 4294967296 = 0 then (0 : Int) else 2) = 0 ∨ _
    split <;> simp
  · split
    · exact ⟨by simp, h2, hf⟩
    · split
      · refine ⟨?_, h2, h3⟩
        show (if f = s.was then (0 : Int) else 1) = 0 ∨ (if f = s.was then (0 : Int) else 1) = 1 ∨ _
        split <;> simp
      · exact ⟨by simp, h2, h3⟩
theorem pushT_ok {s : St} (h : Ok s) {f : Int} (hf : 0 ≤ f ∧ f < 18446744073709551616) : Ok (pushT s f) := by
  obtain ⟨h1, h2, h3⟩ := h
  unfold pushT
  split
  · exact ⟨by simp, hf, h3⟩
  · split
    · exact ⟨by simp, h2, h3⟩
    · split
      · refine ⟨?_, h2, h3⟩
        show (if f = s.was then (0 : Int) else 1) = 0 ∨ (if f = s.was then (0 : Int) else 1) = 1 ∨ _
        split <;> simp
      · exact ⟨by simp, h2, h3⟩
end Go.Proofs.Ytcnbbflgccdfjaa.PoM
