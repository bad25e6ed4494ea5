/- Deeds in plain arithmetic: what a word becomes by one, what one finds in a list of words, what stands there behind it, its text. No program is named. -/
import Derived.Test.YtjbfhnkjcfpfpaaDoorCellsMath
import Derived.Test.YtjbfhnkjcfpfpaaDoorStateMath
import Derived.Lib.ItoaLen
import Derived.Lib.Join
namespace Go.Proofs.YtjbfhnkjcfpfpaaDoor.DM
open CM
open SM (decI)

/-- A deed: its kind, place, two numbers, and by which reference. -/
abbrev D := Int × Int × Int × Int × Int

def afterI (w : Int) (x : D) : Int :=
  if x.1 = 2 then x.2.2.1 else if x.1 = 3 then (if w = x.2.2.1 then x.2.2.2.1 else w) else if x.1 = 4 then (w + x.2.2.1) % 18446744073709551616 else w
def foundD (l : List Int) (x : D) : Int := if 1 ≤ x.1 ∧ x.1 ≤ 4 then getI l x.2.1 else 0
def nextD (l : List Int) (x : D) : List Int := nextI l (x.1, x.2.1, x.2.2.1, x.2.2.2.1)
theorem nextD_length (l : List Int) (x : D) : (nextD l x).length = l.length := nextI_length _ _

theorem nextD_1 (l : List Int) (i a b y : Int) : nextD l (1, i, a, b, y) = l := by unfold nextD nextI; simp
theorem nextD_2 (l : List Int) (i a b y : Int) : nextD l (2, i, a, b, y) = setI l i a := by unfold nextD nextI; simp
theorem nextD_3 (l : List Int) (i a b y : Int) : nextD l (3, i, a, b, y) = swapI l i a b := by unfold nextD nextI; simp
theorem nextD_4 (l : List Int) (i a b y : Int) : nextD l (4, i, a, b, y) = addI l i a := by unfold nextD nextI; simp
theorem nextD_no {l : List Int} {x : D} (h : ¬ (1 ≤ x.1 ∧ x.1 ≤ 4)) : nextD l x = l := by
  unfold nextD nextI
  rw [if_neg (show ¬ x.1 = 2 by omega), if_neg (show ¬ x.1 = 3 by omega), if_neg (show ¬ x.1 = 4 by omega)]
theorem foundD_no {l : List Int} {x : D} (h : ¬ (1 ≤ x.1 ∧ x.1 ≤ 4)) : foundD l x = 0 := if_neg h
theorem foundD_yes {l : List Int} {x : D} (h : 1 ≤ x.1 ∧ x.1 ≤ 4) : foundD l x = getI l x.2.1 := if_pos h
theorem afterI_1 (w i a b y : Int) : afterI w (1, i, a, b, y) = w := by unfold afterI; simp
theorem afterI_2 (w i a b y : Int) : afterI w (2, i, a, b, y) = a := by unfold afterI; simp
theorem afterI_3 (w i a b y : Int) : afterI w (3, i, a, b, y) = if w = a then b else w := by unfold afterI; simp
theorem afterI_4 (w i a b y : Int) : afterI w (4, i, a, b, y) = (w + a) % 18446744073709551616 := by unfold afterI; simp
theorem afterI_no {w : Int} {x : D} (h : ¬ (1 ≤ x.1 ∧ x.1 ≤ 4)) : afterI w x = w := by
  unfold afterI
  rw [if_neg (show ¬ x.1 = 2 by omega), if_neg (show ¬ x.1 = 3 by omega), if_neg (show ¬ x.1 = 4 by omega)]

/-- What stands at a place behind a deed. -/
theorem nextD_at {l : List Int} {x : D} (h : 1 ≤ x.1 ∧ x.1 ≤ 4) {j : Nat} {v : Int} (hj : l[j]? = some v) : (nextD l x)[j]? = some (if (j : Int) = x.2.1 then afterI v x else v) := by
  obtain ⟨k, i, a, b, y⟩ := x
  have hjl := (List.getElem?_eq_some_iff.1 hj).1
  simp only at h ⊢
  have set_at : ∀ u : Int, (setI l i u)[j]? = some (if (j : Int) = i then u else v) := fun u => by
    by_cases hi : there l i
    · obtain ⟨m, rfl, hm⟩ := there_nat hi
      rw [setI_in hm, List.getElem?_set]
      by_cases e : m = j
      · subst e
        simp [hjl]
      · rw [if_neg e, if_neg (by omega), hj]
    · rw [setI_out hi, hj]
      unfold there at hi
      rw [if_neg (by omega)]
  have get_at : (j : Int) = i → getI l i = v := fun e => by rw [← e]; exact getI_some hj
  rcases (show k = 1 ∨ k = 2 ∨ k = 3 ∨ k = 4 by omega) with rfl | rfl | rfl | rfl
  · rw [nextD_1, afterI_1, hj]
    simp
  · rw [nextD_2, afterI_2]
    exact set_at a
  · rw [nextD_3, afterI_3]
    unfold swapI
    by_cases e : (j : Int) = i
    · rw [get_at e, if_pos e]
      by_cases g : v = a
      · rw [if_pos g, if_pos g, set_at, if_pos e]
      · rw [if_neg g, if_neg g, hj]
    · rw [if_neg e]
      by_cases g : getI l i = a
      · rw [if_pos g, set_at, if_neg e]
      · rw [if_neg g, hj]
  · rw [nextD_4, afterI_4]
    unfold addI
    rw [set_at]
    by_cases e : (j : Int) = i
    · rw [if_pos e, if_pos e, get_at e]
    · rw [if_neg e, if_neg e]

/-! The text. -/
def nameL (k : Int) : List UInt8 := if k = 1 then [108, 111, 97, 100] else if k = 2 then [115, 116, 111, 114, 101] else if k = 3 then [115, 119, 97, 112] else [97, 100, 100]
def numsL (k a b : Int) : List Int := if k = 1 then [] else if k = 3 then [a, b] else [a]
def byL (y : Int) : List (List UInt8) := if y = 0 then [] else [[98, 121], decI y]
def partsL (name : List UInt8) (i : Int) (ns : List Int) (y : Int) : List (List UInt8) := name :: Go.Lib.itoa i :: (ns.map decI ++ byL y)
def lineL (name : List UInt8) (i : Int) (ns : List Int) (y : Int) : List UInt8 := Go.Lib.join (partsL name i ns y) [32]
def textI (x : D) : List UInt8 := if 1 ≤ x.1 ∧ x.1 ≤ 4 then lineL (nameL x.1) x.2.1 (numsL x.1 x.2.2.1 x.2.2.2.1) x.2.2.2.2 else [110, 111, 110, 101]

theorem textI_no {x : D} (h : ¬ (1 ≤ x.1 ∧ x.1 ≤ 4)) : textI x = [110, 111, 110, 101] := if_neg h
theorem textI_1 (i a b y : Int) : textI (1, i, a, b, y) = lineL [108, 111, 97, 100] i [] y := by unfold textI nameL numsL; simp
theorem textI_2 (i a b y : Int) : textI (2, i, a, b, y) = lineL [115, 116, 111, 114, 101] i [a] y := by unfold textI nameL numsL; simp
theorem textI_3 (i a b y : Int) : textI (3, i, a, b, y) = lineL [115, 119, 97, 112] i [a, b] y := by unfold textI nameL numsL; simp
theorem textI_4 (i a b y : Int) : textI (4, i, a, b, y) = lineL [97, 100, 100] i [a] y := by unfold textI nameL numsL; simp

def endL (y : Int) : List UInt8 := if y = 0 then [] else [32, 98, 121, 32] ++ decI y
/-- A text as the document builds it, from the left. -/
theorem line_is (name : List UInt8) (i : Int) (ns : List Int) (y : Int) : lineL name i ns y = name ++ [32] ++ Go.Lib.itoa i ++ (ns.map fun n => [32] ++ decI n).flatten ++ endL y := by
  unfold lineL partsL byL endL
  rw [Go.Lib.join_cons]
  unfold Go.Lib.joinTail
  by_cases h : y = 0
  · rw [if_pos h, if_pos h]
    simp [List.map_map, Function.comp_def]
  · rw [if_neg h, if_neg h]
    simp [List.map_map, Function.comp_def]

theorem dec_len (u : Int) (h : u < 18446744073709551616) : (decI u).length ≤ 20 := by unfold decI; rw [Go.Lib.decDigits_length]; exact Go.Lib.nDigits_le20 _ (by omega)
theorem flat_len (ns : List Int) (h : ∀ n ∈ ns, n < 18446744073709551616) : ((ns.map fun n => [32] ++ decI n).flatten).length ≤ 21 * ns.length := by
  induction ns with
  | nil => simp
  | cons n ns ih =>
    have h1 := ih fun m hm => h m (List.mem_cons_of_mem _ hm)
    have h2 := dec_len n (h n List.mem_cons_self)
    simp at h1 ⊢
    omega
theorem end_len (y : Int) (h : y < 18446744073709551616) : (endL y).length ≤ 24 := by
  unfold endL
  split
  · simp
  · have := dec_len y h
    simp
    omega
theorem line_len {name : List UInt8} {i : Int} {ns : List Int} {y : Int} (hn : name.length ≤ 100) (h0 : -9223372036854775808 ≤ i) (h1 : i ≤ 9223372036854775807) (hs : ns.length ≤ 100) (hw : ∀ n ∈ ns, n < 18446744073709551616) (hy : y < 18446744073709551616) : (lineL name i ns y).length ≤ 100000 := by
  have a1 := Go.Lib.itoa_length_le i h0 h1
  have a2 := flat_len ns hw
  have a3 := end_len y hy
  rw [line_is]
  simp only [List.length_append, List.length_cons, List.length_nil]
  omega
theorem example_text : textI (3, 3, 5, 6, 0) = [115, 119, 97, 112, 32, 51, 32, 53, 32, 54] := by
  rw [textI_3, line_is]
  have e3 : Go.Lib.itoa 3 = [51] := by unfold Go.Lib.itoa; rw [if_neg (by omega), show ((3 : Int).toNat) = 3 from rfl, Go.Lib.decDigits_one (by omega)]; rfl
  have e5 : decI 5 = [53] := by unfold decI; rw [show ((5 : Int).toNat) = 5 from rfl, Go.Lib.decDigits_one (by omega)]; rfl
  have e6 : decI 6 = [54] := by unfold decI; rw [show ((6 : Int).toNat) = 6 from rfl, Go.Lib.decDigits_one (by omega)]; rfl
  rw [e3]
  simp [e5, e6, endL]
end Go.Proofs.YtjbfhnkjcfpfpaaDoor.DM
