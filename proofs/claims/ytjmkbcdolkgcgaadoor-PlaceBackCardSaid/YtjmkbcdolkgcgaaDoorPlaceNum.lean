/- Numbers in words, whatever Go's int they are: strconv.Itoa, and the document's own Number; both leave what lay in memory ahead as it was. -/
import Derived.Test.YtjmkbcdolkgcgaaDoorFmtUint
import Derived.Test.YtjmkbcdolkgcgaaDoorDigits
import Derived.Test.YtjmkbcdolkgcgaaDoorFrameLaid
import Derived.Lib.ItoaLen
namespace Go.Proofs.YtjmkbcdolkgcgaaDoor.Num
open Go.ChangeShapes Go.WideShapes Go.ChangeAt Go.RowKit Lay Str Fmt
open SM (decI)

theorem tens_later {w w' : World} (h : Tens w) (hb : Below w.heap.size w w') : Tens w' := Frame.tab_later h hb
/-- What Go's int is from and to. -/
def Fit (n : Int) : Prop := -9223372036854775808 ≤ n ∧ n ≤ 9223372036854775807
theorem itoa_neg {n : Int} (h : n < 0) : Lib.itoa n = [45] ++ decI (-n) := by
  unfold Lib.itoa SM.decI
  rw [if_pos h, show n.natAbs = (-n).toNat by omega]
  rfl
theorem itoa_pos {n : Int} (h : ¬ n < 0) : Lib.itoa n = decI n := by
  unfold Lib.itoa SM.decI
  rw [if_neg h]
theorem itoa_size {i : Int} (h : Fit i) : (bs (Lib.itoa i)).size ≤ 21 := by rw [bs_size]; exact Lib.itoa_length_le i h.1 h.2
theorem Itoa_int {n : Int} (h : Fit n) (w : World) (htab : Tens w) :
    Calls Tryd.prog 23 #[.int .i64 n] w fun e w' => e = .returned (.string (bs (Lib.itoa n))) ∧ Below w.heap.size w w' :=
  (Any.strconv_Itoa Tryd.laysM171 n h.1 h.2 w htab).mono fun _ _ h => by
    obtain ⟨h, k, os, rfl⟩ := h
    exact ⟨by rw [h]; rfl, Lib.below_grow _ _ (Nat.le_refl _) _ _⟩
theorem dec_len (u : Int) (h : u < 18446744073709551616) : (decI u).length ≤ 20 := by unfold SM.decI; rw [Lib.decDigits_length]; exact Lib.nDigits_le20 _ (by omega)
theorem Number_any {n : Int} (h : Fit n) (w : World) : Calls Tryd.prog 24 #[.int .i64 n] w fun e w' => e = .returned (.string (bs (Lib.itoa n))) ∧ Below w.heap.size w w' := by
  obtain ⟨n0, n1⟩ := h
  by_cases h : n < 0
  · have HI := Lib.hid (show Lib.itoa n = [45] ++ decI (-(n + 1) + 1) by rw [itoa_neg h, show -(n + 1) + 1 = -n by omega])
    have HD := Lib.hid (Digits.Digits_any (-(n + 1) + 1) (by omega) (by omega))
    have l1 := dec_len (-(n + 1) + 1) (by omega)
    have z : ¬ 9223372036854775807 < 1 + (bs (decI (-(n + 1) + 1))).size := by rw [bs_size]; omega
    clear l1
    go_enter Tryd.func24, Tryd.ntmps24
    go_wp2_with fail
    refine (HD.out _).mono ?_
    rintro e w' ⟨rfl, hb⟩
    go_wp2
    go_ret
    exact ⟨ret_ba (by rw [HI.out, ← bs_append]; rfl), hb⟩
  · have HI := Lib.hid (itoa_pos h)
    have HD := Lib.hid (Digits.Digits_any n (by omega) (by omega))
    go_enter Tryd.func24, Tryd.ntmps24
    go_wp2_with fail
    refine (HD.out _).mono ?_
    rintro e w' ⟨rfl, hb⟩
    go_wp2
    go_ret
    exact ⟨ret_ba (by rw [HI.out]), hb⟩
end Go.Proofs.YtjmkbcdolkgcgaaDoor.Num
