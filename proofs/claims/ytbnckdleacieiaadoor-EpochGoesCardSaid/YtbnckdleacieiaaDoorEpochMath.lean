/- The epoch that goes on, in plain arithmetic. No program is named. -/
import Derived.Test.YtbnckdleacieiaaDoorRuns
import Derived.Test.YtbnckdleacieiaaDoorPlanMath
namespace Go.Proofs.YtbnckdleacieiaaDoor.EM
open DM PM CM Runs
open Go.RowKit (wrap64)

/-- A task that lets the epoch go on: its step (0 done, 1 won, 2 looks, 3 asks, 4 turns), the epoch it found, the thread at which it stands. -/
structure St where
  st : Int
  ep : Int
  th : Int
def Ok (T : Int) (s : St) : Prop := (s.st = 0 ∨ s.st = 1 ∨ s.st = 2 ∨ s.st = 3 ∨ s.st = 4) ∧ (0 ≤ s.ep ∧ s.ep < 18446744073709551616) ∧ (s.st = 2 → s.th = 0) ∧ (s.st = 3 → s.th < T)
def advA (T : Int) (s : St) : Option D := if s.st = 2 then some (1, 0, 0, 0, 0) else if s.st = 3 then some (1, ofI T 0 s.th, 0, 0, 0) else if s.st = 4 then some (3, 0, s.ep, (s.ep + 1) % 18446744073709551616, 0) else none
/-- Where the count goes on from. -/
def goI (T e t : Int) : St := ⟨if t < T then 3 else 4, e, t⟩
def advT (T : Int) (s : St) (f : Int) : St :=
  if s.st = 2 then goI T f 0 else if s.st = 3 then (if f = 0 ∨ f = s.ep then goI T s.ep (wrap64 (s.th + 1)) else ⟨0, s.ep, s.th⟩) else if s.st = 4 then ⟨if f = s.ep then 1 else 0, s.ep, s.th⟩ else s
def wonB (s : St) : Bool := decide (s.st = 1)

theorem go_ask {T e t : Int} (h : t < T) : goI T e t = ⟨3, e, t⟩ := by unfold goI; rw [if_pos h]
theorem go_turn {T e t : Int} (h : ¬ t < T) : goI T e t = ⟨4, e, t⟩ := by unfold goI; rw [if_neg h]
theorem advA_0 (T e t : Int) : advA T ⟨0, e, t⟩ = none := by simp [advA]
theorem advA_1 (T e t : Int) : advA T ⟨1, e, t⟩ = none := by simp [advA]
theorem advA_2 (T e t : Int) : advA T ⟨2, e, t⟩ = some (1, 0, 0, 0, 0) := by simp [advA]
theorem advA_3 (T e t : Int) : advA T ⟨3, e, t⟩ = some (1, ofI T 0 t, 0, 0, 0) := by simp [advA]
theorem advA_4 (T e t : Int) : advA T ⟨4, e, t⟩ = some (3, 0, e, (e + 1) % 18446744073709551616, 0) := by simp [advA]
theorem advT_0 (T e t f : Int) : advT T ⟨0, e, t⟩ f = ⟨0, e, t⟩ := by simp [advT]
theorem advT_1 (T e t f : Int) : advT T ⟨1, e, t⟩ f = ⟨1, e, t⟩ := by simp [advT]
theorem advT_2 (T e t f : Int) : advT T ⟨2, e, t⟩ f = goI T f 0 := by simp [advT]
theorem advT_3 {T e t f : Int} (h : f = 0 ∨ f = e) : advT T ⟨3, e, t⟩ f = goI T e (wrap64 (t + 1)) := by simp [advT, h]
theorem advT_3n {T e t f : Int} (h : ¬ (f = 0 ∨ f = e)) : advT T ⟨3, e, t⟩ f = ⟨0, e, t⟩ := by simp [advT, h]
theorem advT_4 (T e t : Int) : advT T ⟨4, e, t⟩ e = ⟨1, e, t⟩ := by simp [advT]
theorem advT_4n {T e t f : Int} (h : ¬ f = e) : advT T ⟨4, e, t⟩ f = ⟨0, e, t⟩ := by simp [advT, h]
theorem won_0 (e t : Int) : wonB ⟨0, e, t⟩ = false := by simp [wonB]
theorem won_1 (e t : Int) : wonB ⟨1, e, t⟩ = true := by simp [wonB]
theorem won_n {s : St} (h : ¬ s.st = 1) : wonB s = false := by simp [wonB, h]

theorem ok_new (T : Int) : Ok T ⟨2, 0, 0⟩ := ⟨.inr (.inr (.inl rfl)), ⟨by show (0 : Int) ≤ 0; omega, by show (0 : Int) < _; omega⟩, fun _ => rfl, fun h => by simp at h⟩
theorem go_ok {T e t : Int} (h : 0 ≤ e ∧ e < 18446744073709551616) : Ok T (goI T e t) := by
  unfold goI
  split
  · exact ⟨.inr (.inr (.inr (.inl rfl))), h, fun h => by simp at h, fun _ => by assumption⟩
  · exact ⟨.inr (.inr (.inr (.inr rfl))), h, fun h => by simp at h, fun h => by simp at h⟩
theorem end_ok {T e t k : Int} (hk : k = 0 ∨ k = 1) (h : 0 ≤ e ∧ e < 18446744073709551616) : Ok T ⟨k, e, t⟩ := by
  rcases hk with rfl | rfl
  · exact ⟨.inl rfl, h, fun h => by simp at h, fun h => by simp at h⟩
  · exact ⟨.inr (.inl rfl), h, fun h => by simp at h, fun h => by simp at h⟩
theorem advT_ok {T : Int} {s : St} (h : Ok T s) {f : Int} (hf : 0 ≤ f ∧ f < 18446744073709551616) : Ok T (advT T s f) := by
  have h0 := h
  obtain ⟨h1, h2, h3, h4⟩ := h
  unfold advT
  split
  · exact go_ok hf
  · split
    · split
      · exact go_ok h2
      · exact end_ok (.inl rfl) h2
    · split
      · exact end_ok (by split <;> simp) h2
      · exact h0
theorem advA_fits {T : Int} {s : St} (h : Ok T s) {d : D} (hd : advA T s = some d) (hT : ∀ t : Int, -9223372036854775808 ≤ ofI T 0 t ∧ ofI T 0 t ≤ 9223372036854775807) : (-9223372036854775808 ≤ d.2.1 ∧ d.2.1 ≤ 9223372036854775807) ∧ (0 ≤ d.2.2.1 ∧ d.2.2.1 < 18446744073709551616) ∧ 0 ≤ d.2.2.2.1 ∧ d.2.2.2.1 < 18446744073709551616 := by
  obtain ⟨_, h2, _⟩ := h
  have h5 := hT s.th
  unfold advA at hd
  split at hd
  · cases hd; simp
  · split at hd
    · cases hd; simp; omega
    · split at hd
      · cases hd; simp; omega
      · cases hd
end Go.Proofs.YtbnckdleacieiaaDoor.EM
