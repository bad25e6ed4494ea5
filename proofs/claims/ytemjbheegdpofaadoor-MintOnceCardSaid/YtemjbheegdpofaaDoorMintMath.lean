/- A timer that is made, in plain arithmetic: what its maker asks for, and where it is then. No program is named. -/
import Derived.Test.YtemjbheegdpofaaDoorRuns
import Derived.Test.YtemjbheegdpofaaDoorPlanMath
import Derived.Test.YtemjbheegdpofaaDoorReferMath
import Derived.Test.YtemjbheegdpofaaDoorStateMath
namespace Go.Proofs.YtemjbheegdpofaaDoor.MiM
open DM PM CM Runs
set_option linter.unusedVariables false

/-- A maker: how many deeds are done, what it stores as the state, the timer's reference, its number. -/
structure St where
  k : Nat
  sa : Int
  r : Int
  sq : Int
/-- What it asks for: T and L the plan's numbers, i the slot, dw and tw the deadline and the height as words. -/
def minA (T L i dw tw : Int) (s : St) : Option D :=
  match s.k with
  | 0 => some (1, atI T L i 0, 0, 0, 0)
  | 1 => some (2, atI T L i 0, s.sa, 0, 0)
  | 2 => some (4, 2, 1, 0, 0)
  | 3 => some (2, atI T L i 1, dw, 0, s.r)
  | 4 => some (2, atI T L i 2, s.sq, 0, s.r)
  | 5 => some (2, atI T L i 3, tw, 0, s.r)
  | 6 => some (2, atI T L i 4, 2, 0, s.r)
  | _ => none
def minT (i : Int) (s : St) (f : Int) : St :=
  match s.k with
  | 0 => ⟨1, SM.stI (f / 4294967296) 1, RM.ofI (f / 4294967296) i, s.sq⟩
  | 1 => ⟨2, s.sa, s.r, s.sq⟩
  | 2 => ⟨3, s.sa, s.r, f⟩
  | 3 => ⟨4, s.sa, s.r, s.sq⟩
  | 4 => ⟨5, s.sa, s.r, s.sq⟩
  | 5 => ⟨6, s.sa, s.r, s.sq⟩
  | 6 => ⟨7, s.sa, s.r, s.sq⟩
  | _ => s
/-- The timer, when it is made. -/
def refI (s : St) : Int := if s.k = 7 then s.r else 0
def keyI (dl : Int) (s : St) : Int × Int := if s.k = 7 then (dl, s.sq) else (0, 0)
def Word (x : Int) : Prop := 0 ≤ x ∧ x < 18446744073709551616
def Ok (s : St) : Prop := s.k ≤ 7 ∧ Word s.sa ∧ Word s.r ∧ Word s.sq
theorem ref_done {sa r sq : Int} : refI ⟨7, sa, r, sq⟩ = r := if_pos rfl
theorem key_done {dl sa r sq : Int} : keyI dl ⟨7, sa, r, sq⟩ = (dl, sq) := if_pos rfl
theorem ref_not {s : St} (h : s.k < 7) : refI s = 0 := if_neg (by omega)
theorem key_not {dl : Int} {s : St} (h : s.k < 7) : keyI dl s = (0, 0) := if_neg (by omega)
theorem word_zero : Word 0 := ⟨by omega, by omega⟩
theorem ofI_word {g i : Int} (h : 0 ≤ g) : Word (RM.ofI g i) := by
  unfold Word RM.ofI
  split <;> omega
theorem ok_new : Ok ⟨0, 0, 0, 0⟩ := ⟨by simp, word_zero, word_zero, word_zero⟩
/-- How many deeds are done, one by one. -/
theorem k_cases {s : St} (h : Ok s) : s.k = 0 ∨ s.k = 1 ∨ s.k = 2 ∨ s.k = 3 ∨ s.k = 4 ∨ s.k = 5 ∨ s.k = 6 ∨ s.k = 7 := by
  have := h.1
  omega
theorem minT_ok {i f : Int} {s : St} (h : Ok s) (hf : Word f) : Ok (minT i s f) := by
  have hc := k_cases h
  obtain ⟨h1, h2, h3, h4⟩ := h
  obtain ⟨k, sa, r, sq⟩ := s
  simp only at hc h1 h2 h3 h4
  rcases hc with rfl | rfl | rfl | rfl | rfl | rfl | rfl | rfl
  · exact ⟨by show 1 ≤ 7; omega, ⟨SM.stI_lo _ _, SM.stI_hi _ _⟩, ofI_word (by unfold Word at hf; omega), h4⟩
  · exact ⟨by show 2 ≤ 7; omega, h2, h3, h4⟩
  · exact ⟨by show 3 ≤ 7; omega, h2, h3, hf⟩
  · exact ⟨by show 4 ≤ 7; omega, h2, h3, h4⟩
  · exact ⟨by show 5 ≤ 7; omega, h2, h3, h4⟩
  · exact ⟨by show 6 ≤ 7; omega, h2, h3, h4⟩
  · exact ⟨by show 7 ≤ 7; omega, h2, h3, h4⟩
  · exact ⟨h1, h2, h3, h4⟩
theorem minT_k {i f : Int} {s : St} (h : s.k < 7) : (minT i s f).k = s.k + 1 := by
  obtain ⟨k, sa, r, sq⟩ := s
  simp only at h
  have hc : k = 0 ∨ k = 1 ∨ k = 2 ∨ k = 3 ∨ k = 4 ∨ k = 5 ∨ k = 6 := by omega
  rcases hc with rfl | rfl | rfl | rfl | rfl | rfl | rfl <;> rfl
theorem minA_none {T L i dw tw : Int} {s : St} (h : s.k = 7) : minA T L i dw tw s = none := by
  obtain ⟨k, sa, r, sq⟩ := s
  subst h
  rfl
theorem minA_some {T L i dw tw : Int} {s : St} (h : s.k < 7) : ∃ d, minA T L i dw tw s = some d := by
  obtain ⟨k, sa, r, sq⟩ := s
  simp only at h
  have hc : k = 0 ∨ k = 1 ∨ k = 2 ∨ k = 3 ∨ k = 4 ∨ k = 5 ∨ k = 6 := by omega
  rcases hc with rfl | rfl | rfl | rfl | rfl | rfl | rfl <;> exact ⟨_, rfl⟩
theorem some_k {T L i dw tw : Int} {s : St} {d : D} (h : minA T L i dw tw s = some d) : s.k < 7 := by
  obtain ⟨k, sa, r, sq⟩ := s
  match k, h with
  | 0, _ | 1, _ | 2, _ | 3, _ | 4, _ | 5, _ | 6, _ => simp
  | n + 7, h => cases h
theorem minA_more {T L i dw tw : Int} {s : St} (h : Ok s) : (minA T L i dw tw s).isSome = decide (s.k < 7) := by
  by_cases h7 : s.k < 7
  · obtain ⟨d, hd⟩ := minA_some (T := T) (L := L) (i := i) (dw := dw) (tw := tw) h7
    rw [hd, decide_eq_true h7]
    rfl
  · rw [minA_none (by have := h.1; omega), decide_eq_false h7]
    rfl
end Go.Proofs.YtemjbheegdpofaaDoor.MiM
