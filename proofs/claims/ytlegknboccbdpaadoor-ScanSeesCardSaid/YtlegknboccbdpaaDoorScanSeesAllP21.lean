import Derived.Test.YtlegknboccbdpaaDoorRows
import Derived.Test.YtlegknboccbdpaaDoorScanSeesAllP13
import Derived.Test.YtlegknboccbdpaaDoorScanSeesAllP10
import Derived.Deep.RegionLaw
import Derived.Lib.SliceRun
/- Rows of words: slices.Clone and slices.Reverse at []uint64. -/
namespace Go.Proofs.YtlegknboccbdpaaDoor.WordRows
set_option maxRecDepth 20000
open Go.ChangeShapes Go.WideShapes Go.RowKit Lay Ints
set_option linter.unusedVariables false
set_option linter.unusedSimpArgs false

theorem info_w : (Tryd.prog.info? 22).map (fun i => (i.zero, i.size, i.bytes)) = some (some (.int .u64 0), 1, 8) := by kernel_rfl

/-- The first k words and the last k ones have changed places. -/
def Turned (l l' : List Int) (k : Nat) : Prop := l'.length = l.length ∧ ∀ m, m < l.length → l'[m]? = if m < k ∨ l.length ≤ m + k then l[l.length - 1 - m]? else l[m]?
theorem turned_start (l : List Int) : Turned l l 0 := ⟨rfl, fun m hm => by rw [if_neg (by omega)]⟩
theorem turned_end {l l' : List Int} {k : Nat} (h : Turned l l' k) (hk : l.length ≤ k + k + 1) : l' = l.reverse := by
  apply List.ext_getElem?
  intro m
  by_cases hm : m < l.length
  · rw [h.2 m hm, List.getElem?_reverse hm]
    split
    · rfl
    · rw [show l.length - 1 - m = m by omega]
  · rw [List.getElem?_eq_none (by rw [h.1]; omega), List.getElem?_eq_none (by rw [List.length_reverse]; omega)]
theorem turned_more {l l' : List Int} {k j : Nat} (h : Turned l l' k) (hj : k + j + 1 = l.length) (hk : k < j) {x y : Int} (hx : l'[k]? = some x) (hy : l'[j]? = some y) : Turned l ((l'.set k y).set j x) (k + 1) := by
  obtain ⟨h1, h2⟩ := h
  have e1 := h2 k (by omega)
  have e2 := h2 j (by omega)
  rw [if_neg (by omega), hx] at e1
  rw [if_neg (by omega), hy] at e2
  refine ⟨by simp [h1], fun m hm => ?_⟩
  by_cases m2 : m = j
  · subst m2
    rw [List.getElem?_set_self (by simp; omega), if_pos (by omega), show l.length - 1 - m = k by omega, e1]
  · rw [List.getElem?_set_ne (by omega)]
    by_cases m1 : m = k
    · subst m1
      rw [List.getElem?_set_self (by omega), if_pos (by omega), show l.length - 1 - m = j by omega, e2]
    · rw [List.getElem?_set_ne (by omega), h2 m hm]
      by_cases q : m < k ∨ l.length ≤ m + k
      · rw [if_pos q, if_pos (by omega)]
      · rw [if_neg q, if_neg (by omega)]
end Go.Proofs.YtlegknboccbdpaaDoor.WordRows
