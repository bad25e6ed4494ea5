/- Slices of bools, one cell each: rows of the call's own. No program is named. -/
import Derived.Test.YtdmikjfkdppofaaInts
namespace Go.Proofs.Ytdmikjfkdppofaa.Bools
open Go.ChangeShapes Go.WideShapes Go.RowKit Go.Deep Lay

/-- A bool's cell. -/
def encB (v : Bool) : List Value := [.bool v]
theorem encB_length (v : Bool) : (encB v).length = 1 := rfl
theorem encB_one (x : Bool) : ∀ v ∈ encB x, v.oneCell' = true := by
  intro v hv
  simp [encB] at hv
  rcases hv with rfl
  rfl
theorem flat_bools : ∀ l : List Bool, flat encB l = l.map Value.bool
  | [] => rfl
  | x :: l => by rw [flat_cons, flat_bools l]; rfl
theorem own_bool_at {w : World} {base g cap n : Nat} {e : TypeId} {l : List Bool} (h : w.ownsRow base e 1 (.slice (some ⟨g, 0, none⟩) n cap) n (flat encB l)) (hn : n = l.length) {j : Nat} {v : Bool} (hv : l[j]? = some v) :
    w.cell? ⟨g, j, none⟩ = some (.bool v) ∧ w.frozen? ⟨g, j, none⟩ = false := by
  have hj := (List.getElem?_eq_some_iff.1 hv).1
  refine ⟨?_, h.frozenAt _⟩
  rw [h.cellAt _ (by omega)]
  have := flat_get encB_length (i := 0) (by decide) l j v hv
  simpa [encB] using this
theorem own_bool_set {w : World} {base g cap n : Nat} {e : TypeId} {l : List Bool} (h : w.ownsRow base e 1 (.slice (some ⟨g, 0, none⟩) n cap) n (flat encB l)) (j : Nat) (y : Bool) :
    (w.setCell ⟨g, j, none⟩ (.bool y)).ownsRow base e 1 (.slice (some ⟨g, 0, none⟩) n cap) n (flat encB (l.set j y)) := by
  have e1 : flat encB (l.set j y) = (flat encB l).set j (.bool y) := by rw [flat_bools, flat_bools, List.map_set]
  rw [e1]
  exact (h.stored _ _).1
/-- What 'make' lays: false. -/
theorem made_bools (z : Bool) (n : Nat) : (madeCells (Value.bool z).cells (n * 1)).toList = flat encB (List.replicate n z) := by
  rw [flat_bools, List.map_replicate]
  apply List.ext_getElem?
  intro i
  simp [madeCells, Value.cells, List.getElem?_replicate]
  by_cases h : i < n <;> simp [h, Nat.mod_one]
end Go.Proofs.Ytdmikjfkdppofaa.Bools
