/- A claimer, in plain arithmetic: what it asks for, and what it becomes. No program is named. -/
import Derived.Test.YtjbfhnkjcfpfpaaDoorSeekMath
import Derived.Test.YtjbfhnkjcfpfpaaDoorStateMath
import Derived.Test.YtjbfhnkjcfpfpaaDoorMem
namespace Go.Proofs.YtjbfhnkjcfpfpaaDoor.ClM
set_option maxRecDepth 20000
open DM PM CM KM Runs
set_option linter.unusedVariables false
set_option linter.unusedSimpArgs false

/-- A claimer: whether it is done, whether it was it that took the timer. -/
structure St where
  dn : Bool
  wn : Bool
/-- The generation of a reference. -/
def genI (r : Int) : Int := r / 4294967296
def claimA (T L r : Int) (s : St) : Option D := if s.dn = true then none else some (3, atI T L (idx r) 0, SM.stI (genI r) 2, SM.stI (genI r) 3, 0)
def claimT (r : Int) (s : St) (f : Int) : St := if s.dn = true then s else ⟨true, decide (f = SM.stI (genI r) 2)⟩
/-- Such a claimer as there can be: none has won that is not done. -/
def Ok (s : St) : Prop := s.dn = false → s.wn = false
theorem claimA_done {T L r : Int} {wn : Bool} : claimA T L r ⟨true, wn⟩ = none := rfl
theorem claimA_new {T L r : Int} {wn : Bool} : claimA T L r ⟨false, wn⟩ = some (3, atI T L (idx r) 0, SM.stI (genI r) 2, SM.stI (genI r) 3, 0) := rfl
theorem claimT_done {r f : Int} {wn : Bool} : claimT r ⟨true, wn⟩ f = ⟨true, wn⟩ := rfl
theorem claimT_new {r f : Int} {wn : Bool} : claimT r ⟨false, wn⟩ f = ⟨true, decide (f = SM.stI (genI r) 2)⟩ := rfl
theorem new_ok : Ok ⟨false, false⟩ := fun _ => rfl
theorem claimT_ok {r f : Int} {s : St} (h : Ok s) : Ok (claimT r s f) := by
  obtain ⟨dn, wn⟩ := s
  cases dn
  · intro e; cases e
  · exact h
theorem gen_ok {r : Int} (hr : 0 ≤ r ∧ r < 18446744073709551616) : 0 ≤ genI r ∧ genI r ≤ 4294967295 := by unfold genI; omega
theorem is_live {f g : Int} (hg : g ≤ 4294967295) : SM.isI f g 2 = decide (f = SM.stI g 2) := by
  unfold SM.isI
  by_cases h : f = SM.stI g 2
  · rw [decide_eq_true h, decide_eq_true ⟨hg, by decide, by decide, h⟩]
  · rw [decide_eq_false h, decide_eq_false (fun q => h q.2.2.2)]
theorem claimA_fits {T L r : Int} {s : St} {d : D} (hd : claimA T L r s = some d) : DM.Fits d := by
  have h5 := MM.at_fits T L (idx r) 0
  have h1 := SM.stI_lo (genI r) 2
  have h2 := SM.stI_hi (genI r) 2
  have h3 := SM.stI_lo (genI r) 3
  have h4 := SM.stI_hi (genI r) 3
  unfold claimA at hd
  split at hd
  · cases hd
  · cases hd
    unfold DM.Fits
    simp only
    omega
end Go.Proofs.YtjbfhnkjcfpfpaaDoor.ClM
