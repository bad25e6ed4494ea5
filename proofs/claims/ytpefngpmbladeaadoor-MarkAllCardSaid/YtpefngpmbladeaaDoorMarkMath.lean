/- A marker, in plain arithmetic: what it asks for, and what it becomes. No program is named. -/
import Derived.Test.YtpefngpmbladeaaDoorSeekMath
import Derived.Test.YtpefngpmbladeaaDoorMem
namespace Go.Proofs.YtpefngpmbladeaaDoor.MkM
set_option maxRecDepth 20000
open DM PM CM KM Runs
set_option linter.unusedVariables false
set_option linter.unusedSimpArgs false

/-- A marker: how many levels are left, its step (0 looks, 1 turns), the way on as it was loaded. -/
structure St where
  lf : Int
  st : Int
  wy : Int
/-- How many levels there are to go through. -/
def leftI (tall L : Int) : Int := max 0 (min tall L)
def markA (T L r : Int) (s : St) : Option D :=
  if s.lf = 0 then none else if s.st = 1 then some (3, nextI T L (idx r) (s.lf - 1), s.wy, s.wy + 1, r) else some (1, nextI T L (idx r) (s.lf - 1), 0, 0, r)
def markT (s : St) (f : Int) : St :=
  if s.lf = 0 then s else if s.st = 1 then (if f = s.wy then ⟨s.lf - 1, 0, s.wy⟩ else ⟨s.lf, 0, s.wy⟩) else if f % 2 = 1 then ⟨s.lf - 1, 0, s.wy⟩ else ⟨s.lf, 1, f⟩
/-- Such a marker as there can be. -/
structure Ok (s : St) : Prop where
  lf : 0 ≤ s.lf ∧ s.lf ≤ 9223372036854775807
  st : s.st = 0 ∨ s.st = 1
  wy : 0 ≤ s.wy ∧ s.wy < 18446744073709551616
  even : s.wy % 2 = 0

section
variable {T L r lf st wy f : Int}
theorem markA_0 : markA T L r ⟨0, st, wy⟩ = none := by simp [markA]
theorem markA_look (h : ¬ lf = 0) : markA T L r ⟨lf, 0, wy⟩ = some (1, nextI T L (idx r) (lf - 1), 0, 0, r) := by simp [markA, h]
theorem markA_turn (h : ¬ lf = 0) : markA T L r ⟨lf, 1, wy⟩ = some (3, nextI T L (idx r) (lf - 1), wy, wy + 1, r) := by simp [markA, h]
theorem markT_0 : markT ⟨0, st, wy⟩ f = ⟨0, st, wy⟩ := by simp [markT]
theorem markT_on (h : ¬ lf = 0) (hf : f % 2 = 1) : markT ⟨lf, 0, wy⟩ f = ⟨lf - 1, 0, wy⟩ := by simp [markT, h, hf]
theorem markT_to (h : ¬ lf = 0) (hf : ¬ f % 2 = 1) : markT ⟨lf, 0, wy⟩ f = ⟨lf, 1, f⟩ := by
  unfold markT
  rw [if_neg h, if_neg (show ¬ (0 : Int) = 1 by decide)]
  exact if_neg hf
theorem markT_won (h : ¬ lf = 0) (hf : f = wy) : markT ⟨lf, 1, wy⟩ f = ⟨lf - 1, 0, wy⟩ := by simp [markT, h, hf]
theorem markT_lost (h : ¬ lf = 0) (hf : ¬ f = wy) : markT ⟨lf, 1, wy⟩ f = ⟨lf, 0, wy⟩ := by
  unfold markT
  rw [if_neg h, if_pos rfl]
  exact if_neg hf
end
theorem left_ok {tall L : Int} (h : -9223372036854775808 ≤ L ∧ L ≤ 9223372036854775807) : Ok ⟨leftI tall L, 0, 0⟩ := by
  refine ⟨?_, .inl rfl, ⟨Int.le_refl _, (by show (0 : Int) < _; decide)⟩, rfl⟩
  show 0 ≤ leftI tall L ∧ leftI tall L ≤ _
  unfold leftI
  omega
theorem markT_ok {s : St} (h : Ok s) {f : Int} (hf : 0 ≤ f ∧ f < 18446744073709551616) : Ok (markT s f) := by
  obtain ⟨h1, h2, h3, h4⟩ := h
  unfold markT
  split
  · exact ⟨h1, h2, h3, h4⟩
  · split
    · split
      · exact ⟨by show 0 ≤ s.lf - 1 ∧ s.lf - 1 ≤ _; omega, .inl rfl, h3, h4⟩
      · exact ⟨h1, .inl rfl, h3, h4⟩
    · split
      · exact ⟨by show 0 ≤ s.lf - 1 ∧ s.lf - 1 ≤ _; omega, .inl rfl, h3, h4⟩
      · exact ⟨h1, .inr rfl, hf, by show f % 2 = 0; omega⟩
theorem markA_fits {T L r : Int} {s : St} (h : Ok s) (hr : 0 ≤ r ∧ r < 18446744073709551616) {d : D} (hd : markA T L r s = some d) : DM.Fits d := by
  obtain ⟨h1, h2, h3, h4⟩ := h
  have h5 := MM.next_fits T L (idx r) (s.lf - 1)
  unfold markA at hd
  split at hd
  · cases hd
  · split at hd
    · cases hd; unfold DM.Fits; simp only; omega
    · cases hd; unfold DM.Fits; simp only; omega
end Go.Proofs.YtpefngpmbladeaaDoor.MkM
