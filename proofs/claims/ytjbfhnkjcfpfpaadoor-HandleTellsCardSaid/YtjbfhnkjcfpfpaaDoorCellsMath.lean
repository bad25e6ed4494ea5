/- A list of words as a memory, in plain arithmetic: what is found at a place, what stands there behind each access. No program is named. -/
import Derived.Lib.Hide
namespace Go.Proofs.YtjbfhnkjcfpfpaaDoor.CM

/-- Is there a word at that place? -/
def there (l : List Int) (i : Int) : Prop := 0 ≤ i ∧ i < l.length
instance (l : List Int) (i : Int) : Decidable (there l i) := inferInstanceAs (Decidable (_ ∧ _))
theorem there_nat {l : List Int} {i : Int} (h : there l i) : ∃ j : Nat, i = (j : Int) ∧ j < l.length := by
  obtain ⟨h0, h1⟩ := h
  exact ⟨i.toNat, by omega, by omega⟩

def getI (l : List Int) (i : Int) : Int := if there l i then l.getD i.toNat 0 else 0
def setI (l : List Int) (i v : Int) : List Int := if there l i then l.set i.toNat v else l
def swapI (l : List Int) (i a b : Int) : List Int := if getI l i = a then setI l i b else l
def addI (l : List Int) (i a : Int) : List Int := setI l i ((getI l i + a) % 18446744073709551616)

theorem getI_some {l : List Int} {j : Nat} {x : Int} (h : l[j]? = some x) : getI l (j : Int) = x := by
  have hj := (List.getElem?_eq_some_iff.1 h).1
  unfold getI
  rw [if_pos (show there l (j : Int) from ⟨by omega, by omega⟩)]
  simp [List.getD, h]
theorem getI_out {l : List Int} {i : Int} (h : ¬ there l i) : getI l i = 0 := if_neg h
theorem setI_in {l : List Int} {j : Nat} (h : j < l.length) (v : Int) : setI l (j : Int) v = l.set j v := by
  unfold setI
  rw [if_pos (show there l (j : Int) from ⟨by omega, by omega⟩)]
  simp
theorem setI_out {l : List Int} {i : Int} (h : ¬ there l i) (v : Int) : setI l i v = l := if_neg h
theorem setI_length (l : List Int) (i v : Int) : (setI l i v).length = l.length := by
  unfold setI
  split <;> simp
theorem swapI_length (l : List Int) (i a b : Int) : (swapI l i a b).length = l.length := by
  unfold swapI
  split
  · exact setI_length _ _ _
  · rfl
theorem addI_length (l : List Int) (i a : Int) : (addI l i a).length = l.length := setI_length _ _ _

/-- What stands behind an access (2 a store, 3 a swap, 4 an addition, else a load). -/
def nextI (l : List Int) (x : Int × Int × Int × Int) : List Int :=
  if x.1 = 2 then setI l x.2.1 x.2.2.1 else if x.1 = 3 then swapI l x.2.1 x.2.2.1 x.2.2.2 else if x.1 = 4 then addI l x.2.1 x.2.2.1 else l
theorem nextI_length (l : List Int) (x : Int × Int × Int × Int) : (nextI l x).length = l.length := by
  unfold nextI
  split
  · exact setI_length _ _ _
  · split
    · exact swapI_length _ _ _ _
    · split
      · exact addI_length _ _ _
      · rfl
theorem nextI_out {l : List Int} {x : Int × Int × Int × Int} (h : ¬ there l x.2.1) : nextI l x = l := by
  unfold nextI swapI addI
  simp [setI_out h]

theorem get_set {l : List Int} {i : Int} (h : there l i) (v : Int) : getI (setI l i v) i = v := by
  obtain ⟨j, rfl, hj⟩ := there_nat h
  rw [setI_in hj]
  exact getI_some (by simp [hj])
theorem set_set {l : List Int} (i u v : Int) : setI (setI l i u) i v = setI l i v := by
  by_cases h : there l i
  · obtain ⟨j, rfl, hj⟩ := there_nat h
    rw [setI_in hj, setI_in hj, setI_in (by simpa using hj)]
    simp
  · rw [setI_out h u]
theorem set_get (l : List Int) (i : Int) : setI l i (getI l i) = l := by
  by_cases h : there l i
  · obtain ⟨j, rfl, hj⟩ := there_nat h
    rw [setI_in hj, getI_some (List.getElem?_eq_getElem hj)]
    simp
  · exact setI_out h _
theorem there_set {l : List Int} {i v : Int} (h : there l i) : there (setI l i v) i := by
  unfold there
  rw [setI_length]
  exact h
end Go.Proofs.YtjbfhnkjcfpfpaaDoor.CM
