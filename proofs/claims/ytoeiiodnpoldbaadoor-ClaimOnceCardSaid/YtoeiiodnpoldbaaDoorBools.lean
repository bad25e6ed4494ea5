/- Slices of bools, one cell each: rows of the call's own. No program is named. -/
import Derived.Test.YtoeiiodnpoldbaaDoorInts
namespace Go.Proofs.YtoeiiodnpoldbaaDoor.Bools
open Go.ChangeShapes Go.WideShapes Go.RowKit Go.Deep Lay

/-- A bool's cell. -/
def encB (v : Bool) : List Value := [.bool v]
theorem encB_length (v : Bool) : (encB v).length = 1 := rfl
theorem encB_one (x : Bool) : ∀ v ∈ encB x, v.oneCell' = true := by
  intro v hv
  simp [encB] at hv
  rcases hv with rfl
  rfl
theorem flat_bools : ∀ l : List Bool, flat encB l = l.map Value.bool
  | [] => rfl
  | x :: l => by rw [flat_cons, flat_bools l]; rfl
theorem own_bool_at {w : World} {base g cap n : Nat} {e : TypeId} {l : List Bool} (h : w.ownsRow base e 1 (.slice (some ⟨g, 0, none⟩) n cap) n (flat encB l)) (hn : n = l.length) {j : Nat} {v : Bool} (hv : l[j]? = some v) :
    w.cell? ⟨g, j, none⟩ = some (.bool v) ∧ w.frozen? ⟨g, j, none⟩ = false := by
  have hj := (List.getElem?_eq_some_iff.1 hv).1
  refine ⟨?_, h.frozenAt _⟩
  rw [h.cellAt _ (by omega)]
  have := flat_get encB_length (i := 0) (by decide) l j v hv
  simpa [encB] using this
theorem own_bool_set {w : World} {base g cap n : Nat} {e : TypeId} {l : List Bool} (h : w.ownsRow base e 1 (.slice (some ⟨g, 0, none⟩) n cap) n (flat encB l)) (j : Nat) (y : Bool) :
    (w.setCell ⟨g, j, none⟩ (.bool y)).ownsRow base e 1 (.slice (some ⟨g, 0, none⟩) n cap) n (flat encB (l.set j y)) := by
  have e1 : flat encB (l.set j y) = (flat encB l).set j (.bool y) := by rw [flat_bools, flat_bools, List.map_set]
  rw [e1]
  exact (h.stored _ _).1
/-- What 'make' lays: false. -/
theorem made_bools (z : Bool) (n : Nat) : (madeCells (Value.bool z).cells (n * 1)).toList = flat encB (List.replicate n z) := by
  rw [flat_bools, List.map_replicate]
  apply List.ext_getElem?
  intro i
  simp [madeCells, Value.cells, List.getElem?_replicate]
  by_cases h : i < n <;> simp [h, Nat.mod_one]
section
variable {H : Type} {enc : TypeId × Value → H} {P : Program} {w : World} {base : Nat} {spare : Nat → Bool} {held : Bool}
/-- An element: its cell. -/
theorem one_bool {e : TypeId} (he : P.underlying e = some .bool) (n : Nat) (cs : List Value) (y : DataW H × List MemPlace) (h : DataW.trod enc P w base spare held n e cs = some y) (hl : cs.length = 1) :
    ∃ x : Bool, cs = encB x ∧ True := by
  match cs, hl with
  | [c], _ =>
    obtain ⟨a, ea, _⟩ := DataW.trod_bool he h
    simp at ea
    exact ⟨a, by rw [ea]; rfl, trivial⟩
end
theorem bool_at {w : World} {B : Nat} {A : Option Addr} {l : List Bool} {i : Nat} (h : Row w B A (flat encB l)) (hi : i < l.length) :
    ∃ b o, A = some ⟨b, o, none⟩ ∧ b < B ∧ ∀ (j : Nat) (v : Bool), l[j]? = some v → w.cell? ⟨b, o + j, none⟩ = some (.bool v) := by
  obtain ⟨b, o, hA, hb, hc⟩ := h.get encB_length hi (by decide)
  exact ⟨b, o, hA, hb, fun j v hv => by have := hc j v 0 _ hv (by decide) rfl; simpa using this⟩
end Go.Proofs.YtoeiiodnpoldbaaDoor.Bools
