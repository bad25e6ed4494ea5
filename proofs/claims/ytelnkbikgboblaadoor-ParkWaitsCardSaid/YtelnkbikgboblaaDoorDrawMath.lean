/- Heights of towers, in plain arithmetic: how many of the lowest bits are 1, the height that a number draws, those that a list draws, how many draw each. No program is named. -/
import Derived.Lib.Hide
namespace Go.Proofs.YtelnkbikgboblaaDoor.DM

/-- How many of the lowest bits are 1, one behind the other. -/
def ones (n : Nat) : Nat := if n % 2 = 1 then ones (n / 2) + 1 else 0
decreasing_by omega
theorem ones_odd {n : Nat} (h : n % 2 = 1) : ones n = ones (n / 2) + 1 := by rw [ones, if_pos h]
theorem ones_even {n : Nat} (h : ¬ n % 2 = 1) : ones n = 0 := by rw [ones, if_neg h]
theorem ones_le : ∀ (k n : Nat), n < 2 ^ k → ones n ≤ k
  | 0, n, h => by
    obtain rfl : n = 0 := by simpa using h
    rw [ones_even (by decide)]
    exact Nat.le_refl _
  | k + 1, n, h => by
    by_cases hn : n % 2 = 1
    · rw [ones_odd hn]
      have := ones_le k (n / 2) (by rw [Nat.pow_succ] at h; omega)
      omega
    · rw [ones_even hn]
      omega

def onesI (v : Int) : Nat := ones v.toNat
theorem onesI_odd {v : Int} (h0 : 0 ≤ v) (h : v % 2 = 1) : onesI v = onesI (v / 2) + 1 := by
  unfold onesI
  rw [ones_odd (by omega), show (v / 2).toNat = v.toNat / 2 by omega]
theorem onesI_even {v : Int} (h : ¬ v % 2 = 1) : onesI v = 0 := by
  have hn : ¬ v.toNat % 2 = 1 := by omega
  exact ones_even hn
theorem onesI_le {v : Int} (h0 : 0 ≤ v) (h1 : v < 18446744073709551616) : onesI v ≤ 64 := ones_le 64 _ (by
  have : (2 : Nat) ^ 64 = 18446744073709551616 := by decide
  rw [this]; omega)

/-- The number without its lowest k bits. -/
def tailI (v : Int) (k : Nat) : Int := v / 2 ^ k
theorem tail_zero (v : Int) : tailI v 0 = v := by simp [tailI]
theorem tail_succ (v : Int) (k : Nat) : tailI v (k + 1) = tailI v k / 2 := by
  unfold tailI
  rw [Int.pow_succ, Int.ediv_ediv_of_nonneg (by exact Int.le_of_lt (Int.pow_pos (by decide)))]
theorem tail_lo {v : Int} (h : 0 ≤ v) (k : Nat) : 0 ≤ tailI v k := Int.ediv_nonneg h (Int.le_of_lt (Int.pow_pos (by decide)))
theorem tail_le {v : Int} (h : 0 ≤ v) : ∀ k, tailI v k ≤ v
  | 0 => by rw [tail_zero]; exact Int.le_refl _
  | k + 1 => by rw [tail_succ]; have := tail_le h k; have := tail_lo h k; omega
theorem tail_end {v : Int} (h0 : 0 ≤ v) (h1 : v < 18446744073709551616) : tailI v 64 = 0 := by
  unfold tailI
  rw [show (2 : Int) ^ 64 = 18446744073709551616 by decide]
  omega
theorem tail_odd {v : Int} (h0 : 0 ≤ v) {k : Nat} (he : onesI v = k + onesI (tailI v k)) (h : tailI v k % 2 = 1) : onesI v = (k + 1) + onesI (tailI v (k + 1)) := by
  rw [tail_succ]
  have := onesI_odd (tail_lo h0 k) h
  omega
theorem tail_even {v : Int} {k : Nat} (he : onesI v = k + onesI (tailI v k)) (h : ¬ tailI v k % 2 = 1) : onesI v = k := by
  have := onesI_even h
  omega
theorem tail_done {v : Int} (h0 : 0 ≤ v) (h1 : v < 18446744073709551616) (he : onesI v = 64 + onesI (tailI v 64)) : onesI v = 64 := by
  have hz : onesI 0 = 0 := onesI_even (v := 0) (by decide)
  rw [tail_end h0 h1, hz] at he
  exact he

/-- The height that v draws, of so many levels. -/
def heightI (v lv : Int) : Int := if lv < 1 then 0 else if lv ≤ (onesI v : Int) + 1 then lv else (onesI v : Int) + 1
theorem height_none {v lv : Int} (h : lv < 1) : heightI v lv = 0 := if_pos h
theorem height_all {v lv : Int} (h : ¬ lv < 1) (h2 : lv ≤ (onesI v : Int) + 1) : heightI v lv = lv := by unfold heightI; rw [if_neg h, if_pos h2]
theorem height_some {v lv : Int} (h : ¬ lv < 1) (h2 : ¬ lv ≤ (onesI v : Int) + 1) : heightI v lv = (onesI v : Int) + 1 := by unfold heightI; rw [if_neg h, if_neg h2]
theorem height_lo (v lv : Int) : 0 ≤ heightI v lv := by
  unfold heightI
  split
  · omega
  · split <;> omega
theorem height_pos {v lv : Int} (h : ¬ lv < 1) : 1 ≤ heightI v lv := by
  unfold heightI
  rw [if_neg h]
  split <;> omega
theorem height_hi {v lv : Int} (h : ¬ lv < 1) : heightI v lv ≤ lv := by
  unfold heightI
  rw [if_neg h]
  split <;> omega

theorem height_mono {v lv mo : Int} (h : ¬ lv < 1) (hm : lv ≤ mo) : heightI v lv ≤ heightI v mo := by
  have h2 : ¬ mo < 1 := by omega
  unfold heightI
  rw [if_neg h, if_neg h2]
  split <;> split <;> omega
theorem height_stays {v lv mo : Int} (h : ¬ lv < 1) (hm : lv ≤ mo) : ¬ heightI v lv = lv → heightI v lv = heightI v mo := by
  have h2 : ¬ mo < 1 := by omega
  unfold heightI
  rw [if_neg h, if_neg h2]
  split <;> split <;> omega
theorem height_even {v lv : Int} (h : ¬ lv < 1) (he : v % 2 = 0) : heightI v lv = 1 := by
  have := onesI_even (v := v) (by omega)
  unfold heightI
  rw [if_neg h, this]
  split <;> omega
theorem height_odd {v lv : Int} (h0 : 0 ≤ v) (h : ¬ lv < 1) (he : v % 2 = 1) (h1 : ¬ lv = 1) : 1 < heightI v lv := by
  have := onesI_odd h0 he
  unfold heightI
  rw [if_neg h, this]
  split <;> omega

/-- How many of l draw h, of so many levels. -/
def drawn (l : List Int) (lv h : Int) : Nat := l.countP fun v => heightI v lv == h
theorem drawn_nil (lv h : Int) : drawn [] lv h = 0 := rfl
theorem drawn_le (l : List Int) (lv h : Int) : drawn l lv h ≤ l.length := List.countP_le_length
theorem drawn_take (l : List Int) (lv h : Int) (k : Nat) (hk : k < l.length) : drawn (l.take (k + 1)) lv h = drawn (l.take k) lv h + if heightI l[k] lv = h then 1 else 0 := by
  unfold drawn
  rw [List.take_succ_eq_append_getElem hk, List.countP_append]
  by_cases e : heightI l[k] lv = h <;> simp [e]

/-- How many draw 1, 2, .., m. -/
def counts (l : List Int) (lv : Int) (m : Nat) : List Int := (List.range m).map fun j : Nat => ((drawn l lv ((j : Int) + 1) : Nat) : Int)
theorem counts_length (l : List Int) (lv : Int) (m : Nat) : (counts l lv m).length = m := by simp [counts]
theorem counts_get (l : List Int) (lv : Int) (m : Nat) {j : Nat} (hj : j < m) : (counts l lv m)[j]? = some (drawn l lv ((j : Int) + 1) : Int) := by simp [counts, hj]
theorem counts_nil (lv : Int) (m : Nat) : counts [] lv m = List.replicate m 0 := by
  apply List.ext_getElem?
  intro i
  simp [counts, drawn_nil, List.getElem?_replicate]
  by_cases h : i < m <;> simp [h]
theorem counts_succ (l : List Int) (lv : Int) (m : Nat) : counts l lv (m + 1) = counts l lv m ++ [(drawn l lv ((m : Int) + 1) : Int)] := by simp [counts, List.range_succ]
/-- One more number is counted at its height. -/
theorem counts_step (l : List Int) (lv : Int) (m k : Nat) (hk : k < l.length) (t : Nat) (ht : t < m) (hh : heightI l[k] lv = (t : Int) + 1) :
    counts (l.take (k + 1)) lv m = (counts (l.take k) lv m).set t ((drawn (l.take k) lv ((t : Int) + 1) : Int) + 1) := by
  apply List.ext_getElem?
  intro i
  by_cases hi : i < m
  · rw [counts_get _ _ _ hi, drawn_take l lv _ k hk, List.getElem?_set]
    by_cases e : t = i
    · subst e
      rw [if_pos hh, if_pos rfl, if_pos (by rw [counts_length]; exact ht)]
      simp
    · rw [if_neg e, counts_get _ _ _ hi, if_neg (by omega)]
      simp
  · rw [List.getElem?_eq_none (by rw [counts_length]; omega), List.getElem?_eq_none (by rw [List.length_set, counts_length]; omega)]
theorem counts_zero (l l' : List Int) (lv : Int) (m : Nat) (hm : m = 0) : counts l lv m = counts l' lv m := by rw [hm]; rfl

/-- So many heights are counted: levels below 0 as 0, above 64 as 64. -/
def levelsN (lv : Int) : Nat := (min (max lv 0) 64).toNat
theorem levels_cast (lv : Int) : min (max lv 0) 64 = (levelsN lv : Int) := by unfold levelsN; omega
theorem levels_le (lv : Int) : levelsN lv ≤ 64 := by unfold levelsN; omega

/-- A row half filled with heights. -/
def filled (l : List Int) (lv : Int) (k : Nat) : List Int := (l.take k).map (heightI · lv) ++ List.replicate (l.length - k) 0
theorem filled_zero (l : List Int) (lv : Int) : filled l lv 0 = List.replicate l.length 0 := by simp [filled]
theorem filled_all (l : List Int) (lv : Int) : filled l lv l.length = l.map (heightI · lv) := by simp [filled]
theorem filled_length (l : List Int) (lv : Int) (k : Nat) (hk : k ≤ l.length) : (filled l lv k).length = l.length := by simp [filled]; omega
theorem filled_step (l : List Int) (lv : Int) (k : Nat) (hk : k < l.length) : (filled l lv k).set k (heightI l[k] lv) = filled l lv (k + 1) := by
  have hl : ((l.take k).map (heightI · lv)).length = k := by simp; omega
  unfold filled
  rw [List.set_append_right _ _ (by omega), hl, Nat.sub_self, show l.length - k = (l.length - (k + 1)) + 1 by omega, List.replicate_succ, List.set_cons_zero,
    List.take_succ_eq_append_getElem hk, List.map_append, List.append_assoc]
  rfl
theorem map_take (l : List Int) (lv : Int) (k : Nat) (hk : k < l.length) : (l.take (k + 1)).map (heightI · lv) = (l.take k).map (heightI · lv) ++ [heightI l[k] lv] := by
  rw [List.take_succ_eq_append_getElem hk, List.map_append]
  rfl
end Go.Proofs.YtelnkbikgboblaaDoor.DM
