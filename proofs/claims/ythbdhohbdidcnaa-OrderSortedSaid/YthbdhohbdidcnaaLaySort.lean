/- A row of the call's own, between the words of Lay and those of the kit's sort. No program is named. -/
import Derived.Test.YthbdhohbdidcnaaLay
import Derived.Shelf.GgSortFunc.InsertionK
namespace Go.Proofs.Ythbdhohbdidcnaa.Lay
open Go.RowKit Go.Sort

section
variable {α : Type} [Inhabited α] {k : Nat} {enc : α → List Value} {w : World} {b : Nat} {l : List α}
theorem flatK_get (hk : ∀ x, (enc x).length = k) (h0 : 0 < k) (j : Nat) (hj : j < l.length * k) : (flat enc l)[j]? = some ((flatK enc k l.toArray)[j]!) := by
  have hd : j / k < l.length := Nat.div_lt_of_lt_mul (by rwa [Nat.mul_comm])
  have hm := Nat.mod_lt j h0
  have e := Nat.div_add_mod' j k
  have h1 := flat_get hk hm l (j / k) _ (List.getElem?_eq_getElem hd)
  rw [e] at h1
  rw [h1, get_flatK _ _ _ _ (by simpa using hj)]
  have h2 : l.toArray[j / k]! = l[j / k] := by simp [hd]
  rw [h2, List.getElem?_eq_getElem (by rw [hk]; exact hm)]
  congr 1
  rw [getElem!_pos _ _ (by rw [hk]; exact hm)]

theorem holdsK_of_row (hk : ∀ x, (enc x).length = k) (h0 : 0 < k) {t : TypeId} (hg : w.heap[b]? = some (.cells (flat enc l).toArray t (0, 0))) : HoldsK enc k w b 0 l.toArray := by
  intro j hj
  have hj' : j < l.length * k := by simpa using hj
  refine ⟨?_, ?_⟩
  · rw [Nat.zero_add, cell_of_row w b j _ t _ hg, List.getElem?_toArray, flatK_get hk h0 j hj']
    rfl
  · rw [Nat.zero_add]
    exact frozen_of_row w b j _ t hg

theorem row_of_holdsK (hk : ∀ x, (enc x).length = k) (h0 : 0 < k) (h : HoldsK enc k w b 0 l.toArray) (hb : b < w.heap.size) : Row w w.heap.size (some ⟨b, 0, none⟩) (flat enc l) := by
  intro _
  refine ⟨b, 0, rfl, hb, fun j v hj => ?_⟩
  have hj' : j < l.length * k := by rw [← flat_length hk]; exact (List.getElem?_eq_some_iff.1 hj).1
  rw [flatK_get hk h0 j hj'] at hj
  have h1 := (h j (by simpa using hj')).1
  rw [h1]
  exact hj

theorem grownBy_sortWorldK {d : Array α} {n : Nat} {os : Array Obj} : w.grownBy (sortWorldK enc k w b 0 n d os) (some b) := by
  refine ⟨rfl, rfl, rfl, by unfold sortWorldK putRowK; simp, fun i hi hne => ?_⟩
  have hib : i ≠ b := fun e => hne (by rw [e])
  unfold sortWorldK
  rw [heap_grow_old _ _ (by unfold putRowK; simpa using hi)]
  show (mapBlock (Sort.ahead w n) b _).heap[i]? = _
  simp only [mapBlock, Array.getElem?_modify]
  rw [if_neg (Ne.symm hib)]
  rfl

theorem row_sortWorldK (hk : ∀ x, (enc x).length = k) (h0 : 0 < k) {l' : List α} {n : Nat} {os : Array Obj} (h : HoldsK enc k w b 0 l.toArray) (hb : b < w.heap.size) (hl : l'.length = l.length) :
    Row (sortWorldK enc k w b 0 n l'.toArray os) (sortWorldK enc k w b 0 n l'.toArray os).heap.size (some ⟨b, 0, none⟩) (flat enc l') := by
  have h1 : HoldsK enc k (putRowK enc k (Sort.ahead w n) b 0 l'.toArray) b 0 l'.toArray := holdsK_putRowK enc k _ b 0 l.toArray l'.toArray (holdsK_ahead enc k w n b 0 _ h) (by simp [hl])
  have hb1 : b < (putRowK enc k (Sort.ahead w n) b 0 l'.toArray).heap.size := by unfold putRowK; simpa using hb
  have h2 : HoldsK enc k (sortWorldK enc k w b 0 n l'.toArray os) b 0 l'.toArray := holdsK_grow enc k _ os b 0 _ hb1 h1
  exact row_of_holdsK hk h0 h2 (by unfold sortWorldK; simp; omega)
end
end Go.Proofs.Ythbdhohbdidcnaa.Lay
