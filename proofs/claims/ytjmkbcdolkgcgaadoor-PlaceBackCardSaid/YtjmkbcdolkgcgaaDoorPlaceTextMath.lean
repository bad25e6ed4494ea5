/- The texts of spots, as lists of bytes. No program is named. -/
import Derived.Test.YtjmkbcdolkgcgaaDoorPlaceMath
import Derived.Test.YtjmkbcdolkgcgaaDoorStr
import Derived.Lib.ItoaLen
namespace Go.Proofs.YtjmkbcdolkgcgaaDoor.PM
open Go.RowKit

/-- What the kinds of spots are called. -/
def namesL : List (List UInt8) := [[110, 111, 110, 101], [101, 112, 111, 99, 104], [99, 108, 111, 99, 107], [115, 101, 114, 105, 97, 108], [102, 114, 101, 101], [112, 105, 110], [115, 108, 101, 101, 112], [115, 101, 109], [104, 101, 97, 100], [115, 116, 97, 116, 101], [100, 101, 97, 100], [115, 101, 113], [116, 97, 108, 108], [104, 111, 108, 100], [115, 117, 99, 99], [110, 101, 120, 116]]
def nameL (k : Int) : List UInt8 := if 0 ≤ k then (namesL[k.toNat]?).getD [110, 111, 110, 101] else [110, 111, 110, 101]
theorem names_at (k : Nat) (h : k < 16) : namesL[k]? = some (nameL (k : Int)) := by
  have : namesL.length = 16 := rfl
  unfold nameL
  rw [if_pos (by omega)]
  simp [List.getElem?_eq_getElem (l := namesL) (i := k) (by omega)]
theorem name_low {k : Int} (h : k < 0) : nameL k = [110, 111, 110, 101] := if_neg (by omega)
theorem name_high {k : Int} (h : 16 ≤ k) : nameL k = [110, 111, 110, 101] := by
  have : namesL.length = 16 := rfl
  unfold nameL
  rw [if_pos (by omega), List.getElem?_eq_none (by omega)]
  rfl
def slotB : List UInt8 := [115, 108, 111, 116, 32]
/-- The text of a spot. -/
def textS (s : Sp) : List UInt8 :=
  if 5 ≤ s.1 ∧ s.1 ≤ 7 then nameL s.1 ++ [32] ++ Lib.itoa s.2.1
  else if s.1 = 8 then nameL s.1 ++ [32] ++ Lib.itoa s.2.2
  else if 9 ≤ s.1 ∧ s.1 ≤ 14 then slotB ++ Lib.itoa s.2.1 ++ [32] ++ nameL s.1
  else if s.1 = 15 then slotB ++ Lib.itoa s.2.1 ++ [32] ++ nameL s.1 ++ [32] ++ Lib.itoa s.2.2
  else nameL s.1
theorem text_thread (k o l : Int) (h : 5 ≤ k ∧ k ≤ 7) : textS (k, o, l) = nameL k ++ [32] ++ Lib.itoa o := if_pos h
theorem text_head (o l : Int) : textS (8, o, l) = nameL 8 ++ [32] ++ Lib.itoa l := rfl
theorem text_slot (k o l : Int) (h : 9 ≤ k ∧ k ≤ 14) : textS (k, o, l) = slotB ++ Lib.itoa o ++ [32] ++ nameL k := by
  unfold textS
  rw [if_neg (by simp only; omega), if_neg (by simp only; omega), if_pos h]
theorem text_next (o l : Int) : textS (15, o, l) = slotB ++ Lib.itoa o ++ [32] ++ nameL 15 ++ [32] ++ Lib.itoa l := rfl
theorem text_other (k o l : Int) (h : k < 5 ∨ 15 < k) : textS (k, o, l) = nameL k := by
  unfold textS
  rw [if_neg (by simp only; omega), if_neg (by simp only; omega), if_neg (by simp only; omega), if_neg (by simp only; omega)]
end Go.Proofs.YtjmkbcdolkgcgaaDoor.PM
