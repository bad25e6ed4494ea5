/- Who sleeps too long is woken, in plain arithmetic: what a waker asks for, and what it becomes. No program is named. -/
import Derived.Test.YtilmobnnccjmgaaDoorRuns
import Derived.Test.YtilmobnnccjmgaaDoorPlanMath
import Derived.Test.YtilmobnnccjmgaaDoorMem
namespace Go.Proofs.YtilmobnnccjmgaaDoor.WkM
set_option maxRecDepth 20000
open DM PM CM Runs
open Go.RowKit (wrap64)
set_option linter.unusedVariables false
set_option linter.unusedSimpArgs false

/-- A waker: the thread at which it stands, and whether its Add is next. -/
structure St where
  th : Int
  ad : Bool
def start : St := ⟨0, false⟩
/-- The word of the deadline and 1. -/
def dueW (dl : Int) : Int := (dl + 1) % 18446744073709551616
def wakeA (T : Int) (s : St) : Option D := if s.th < T then some (if s.ad = true then (4, ofI T 2 s.th, 1, 0, 0) else (1, ofI T 1 s.th, 0, 0, 0)) else none
def wakeT (T dl : Int) (s : St) (f : Int) : St := if s.th < T then (if s.ad = true then ⟨s.th + 1, false⟩ else if dueW dl < f then ⟨s.th, true⟩ else ⟨s.th + 1, false⟩) else s
section
variable {T dl t f : Int} {b : Bool}
theorem due_lo : 0 ≤ dueW dl ∧ dueW dl < 18446744073709551616 := by unfold dueW; omega
theorem wakeA_done (h : ¬ t < T) : wakeA T ⟨t, b⟩ = none := if_neg h
theorem wakeA_look (h : t < T) : wakeA T ⟨t, false⟩ = some (1, ofI T 1 t, 0, 0, 0) := by unfold wakeA; rw [if_pos h]; rfl
theorem wakeA_add (h : t < T) : wakeA T ⟨t, true⟩ = some (4, ofI T 2 t, 1, 0, 0) := by unfold wakeA; rw [if_pos h]; rfl
theorem wakeT_done (h : ¬ t < T) : wakeT T dl ⟨t, b⟩ f = ⟨t, b⟩ := if_neg h
theorem wakeT_add (h : t < T) : wakeT T dl ⟨t, true⟩ f = ⟨t + 1, false⟩ := by unfold wakeT; rw [if_pos h]; rfl
theorem wakeT_long (h : t < T) (hd : dueW dl < f) : wakeT T dl ⟨t, false⟩ f = ⟨t, true⟩ := by unfold wakeT; rw [if_pos h, if_neg (by simp), if_pos hd]
theorem wakeT_not (h : t < T) (hd : ¬ dueW dl < f) : wakeT T dl ⟨t, false⟩ f = ⟨t + 1, false⟩ := by unfold wakeT; rw [if_pos h, if_neg (by simp), if_neg hd]
end
/-- Such a waker as there can be. -/
structure Ok (T : Int) (s : St) : Prop where
  lo : 0 ≤ s.th
  hi : s.th ≤ T ∨ s.th = 0
  ad : s.ad = true → s.th < T
theorem start_ok (T : Int) : Ok T start := ⟨Int.le_refl _, .inr rfl, fun h => by cases h⟩
theorem wakeT_ok {T dl f : Int} {s : St} (h : Ok T s) : Ok T (wakeT T dl s f) := by
  obtain ⟨t, b⟩ := s
  have hu := h
  obtain ⟨h1, h2, h3⟩ := h
  simp only at h1 h2 h3
  by_cases e : t < T
  · cases b with
    | true => rw [wakeT_add e]; exact ⟨by simp only; omega, .inl (by simp only; omega), fun z => by cases z⟩
    | false =>
      by_cases q : dueW dl < f
      · rw [wakeT_long e q]; exact ⟨h1, h2, fun _ => e⟩
      · rw [wakeT_not e q]; exact ⟨by simp only; omega, .inl (by simp only; omega), fun z => by cases z⟩
  · rw [wakeT_done e]; exact hu
theorem wakeA_none {T : Int} {s : St} : wakeA T s = none ↔ ¬ s.th < T := by
  unfold wakeA
  by_cases h : s.th < T <;> simp [h]
theorem wakeA_fits {T : Int} {s : St} {d : D} (hd : wakeA T s = some d) : DM.Fits d := by
  obtain ⟨t, b⟩ := s
  have h1 := MM.of_fits T 1 t
  have h2 := MM.of_fits T 2 t
  by_cases e : t < T
  · cases b with
    | true => rw [wakeA_add e] at hd; cases hd; unfold DM.Fits; simp only; omega
    | false => rw [wakeA_look e] at hd; cases hd; unfold DM.Fits; simp only; omega
  · rw [wakeA_done e] at hd; cases hd
end Go.Proofs.YtilmobnnccjmgaaDoor.WkM
