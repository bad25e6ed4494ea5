/- Slices of integers of one kind, one cell each: reading them as lists, rows of the call's own, opening them. No program is named. -/
import Derived.Test.YtelnkbikgboblaaDoorOpen
namespace Go.Proofs.YtelnkbikgboblaaDoor.Ints
open Go.ChangeShapes Go.WideShapes Go.RowKit Go.Deep Lay

/-- An integer's cell. -/
def encZ (k : IntKind) (v : Int) : List Value := [.int k v]
theorem encZ_length (k : IntKind) (v : Int) : (encZ k v).length = 1 := rfl
theorem encZ_one (k : IntKind) (x : Int) : ∀ v ∈ encZ k x, v.oneCell' = true := by
  intro v hv
  simp [encZ] at hv
  rcases hv with rfl
  rfl
theorem flat_ints (k : IntKind) : ∀ l : List Int, flat (encZ k) l = l.map (Value.int k)
  | [] => rfl
  | x :: l => by rw [flat_cons, flat_ints k l]; rfl
theorem flat_ints_length (k : IntKind) (l : List Int) : (flat (encZ k) l).length = l.length := by rw [flat_ints, List.length_map]

theorem int_at {w : World} {B : Nat} {A : Option Addr} {k : IntKind} {l : List Int} {i : Nat} (h : Row w B A (flat (encZ k) l)) (hi : i < l.length) :
    ∃ b o, A = some ⟨b, o, none⟩ ∧ b < B ∧ ∀ (j : Nat) (v : Int), l[j]? = some v → w.cell? ⟨b, o + j, none⟩ = some (.int k v) := by
  obtain ⟨b, o, hA, hb, hc⟩ := h.get (encZ_length k) hi (by decide)
  exact ⟨b, o, hA, hb, fun j v hv => by have := hc j v 0 _ hv (by decide) rfl; simpa using this⟩

theorem own_int_at {w : World} {base g cap n : Nat} {e : TypeId} {k : IntKind} {l : List Int} (h : w.ownsRow base e 1 (.slice (some ⟨g, 0, none⟩) n cap) n (flat (encZ k) l)) (hn : n = l.length) {j : Nat} {v : Int} (hv : l[j]? = some v) :
    w.cell? ⟨g, j, none⟩ = some (.int k v) ∧ w.frozen? ⟨g, j, none⟩ = false := by
  have hj := (List.getElem?_eq_some_iff.1 hv).1
  refine ⟨?_, h.frozenAt _⟩
  rw [h.cellAt _ (by omega)]
  have := flat_get (encZ_length k) (i := 0) (by decide) l j v hv
  simpa [encZ] using this
theorem flat_int_set (k : IntKind) (l : List Int) (j : Nat) (y : Int) : (flat (encZ k) l).set j (.int k y) = flat (encZ k) (l.set j y) := by
  rw [flat_ints, flat_ints, List.map_set]
theorem own_int_set {w : World} {base g cap n : Nat} {e : TypeId} {k : IntKind} {l : List Int} (h : w.ownsRow base e 1 (.slice (some ⟨g, 0, none⟩) n cap) n (flat (encZ k) l)) (j : Nat) (y : Int) :
    (w.setCell ⟨g, j, none⟩ (.int k y)).ownsRow base e 1 (.slice (some ⟨g, 0, none⟩) n cap) n (flat (encZ k) (l.set j y)) := by
  rw [← flat_int_set]
  exact (h.stored _ _).1
/-- What 'make' lays: zeros. -/
theorem made_ints (k : IntKind) (z : Int) (n : Nat) : (madeCells (Value.int k z).cells (n * 1)).toList = flat (encZ k) (List.replicate n z) := by
  rw [flat_ints, List.map_replicate]
  apply List.ext_getElem?
  intro i
  simp [madeCells, Value.cells, List.getElem?_replicate]
  by_cases h : i < n <;> simp [h, Nat.mod_one]

section
variable {H : Type} {enc : TypeId × Value → H} {P : Program} {w : World} {base : Nat} {spare : Nat → Bool} {held : Bool}
/-- An element: its cell. -/
theorem one_int {e : TypeId} {k : IntKind} (he : P.underlying e = some (.int k)) (n : Nat) (cs : List Value) (y : DataW H × List MemPlace) (h : DataW.trod enc P w base spare held n e cs = some y) (hl : cs.length = 1) :
    ∃ x : Int, cs = encZ k x ∧ (Lit.int k x).wf = true := by
  match cs, hl with
  | [c], _ =>
    obtain ⟨a, ea, _, wa⟩ := DataW.trod_int he h
    simp at ea
    exact ⟨a, by rw [ea]; rfl, wa⟩
end
end Go.Proofs.YtelnkbikgboblaaDoor.Ints
