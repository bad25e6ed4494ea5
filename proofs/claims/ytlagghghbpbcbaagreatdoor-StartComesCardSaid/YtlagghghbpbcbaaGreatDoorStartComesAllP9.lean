import Derived.Test.YtlagghghbpbcbaaGreatDoorRows
import Derived.Test.YtlagghghbpbcbaaGreatDoorStartComesAllP8
import Derived.Test.YtlagghghbpbcbaaGreatDoorStartComesAllP1
import Derived.WalkKit
import Derived.ProofKit
import Derived.Lib.Hide
import Derived.Lib.MinMax
import Derived.Deep.RegionHeld3
/- The functions of package draw (layer 5), each held to plain arithmetic: what each call returns, at every number, list and count of levels; what lay in memory ahead stays as it was. -/
namespace Go.Proofs.YtlagghghbpbcbaaGreatDoor.Draw
set_option maxRecDepth 20000
open Go.ChangeShapes Go.WideShapes Go.RowKit DM Lay Ints

theorem ret_i64 {a b : Int} (h : a = b) : Ending.returned (.int .i64 a) = .returned (.int .i64 b) := by rw [h]
theorem ret_bool {a b : Bool} (h : a = b) : Ending.returned (.bool a) = .returned (.bool b) := by rw [h]
theorem mixed : Tryz.prog.follows .mixedOrders = true := by kernel_rfl

theorem and_one (x : Int) (h0 : 0 ≤ x) (h1 : x < 18446744073709551616) : bits .and .u64 x 1 = x % 2 := by
  obtain ⟨n, rfl⟩ := Int.eq_ofNat_of_zero_le h0
  have h := u64_and_nat n 1 (by omega) (by decide)
  rw [Nat.and_one_is_mod] at h
  simpa using h

theorem ones_any (v : Int) (h0 : 0 ≤ v) (h1 : v < 18446744073709551616) (w : World) : Calls Tryz.prog 123 #[.int .u64 v] w fun e w' => e = .returned (.int .i64 (onesI v)) ∧ w = w' := by
  go_enter Tryz.func123, Tryz.ntmps123
  go_wp2
  go_loopw [4] (fun i wr => ∃ k : Nat, k ≤ 64 ∧ i = .int .i64 k ∧ onesI v = k + onesI (tailI v k) ∧ w = wr)
    (fun i _ => 64 - (intOf i).toNat)
  case atStart => exact ⟨0, Nat.zero_le _, rfl, by rw [tail_zero, Nat.zero_add], rfl⟩
  case round =>
    obtain ⟨k, hk, rfl, he, rfl⟩ := hrel
    have HE := Lib.hid he
    clear he
    have ha : bits .and .u64 (v / 2 ^ k) 1 = tailI v k % 2 := and_one (tailI v k) (tail_lo h0 k) (by have := tail_le h0 k; omega)
    have hl := tail_lo h0 k
    by_cases hlt : k < 64
    · by_cases ho : tailI v k % 2 = 1
      · have HO := Lib.hid (tail_odd h0 HE.out ho)
        have ht : (bits .and .u64 (v / 2 ^ k) 1 == 0) = false := by rw [ha, ho]; rfl
        clear ha hl ho
        go_wp2
        go_roundw
        case rel => exact ⟨k + 1, by omega, by go_num, HO.out, trivial⟩
        case measure => simp [intOf]; omega
      · have HO := Lib.hid (tail_even HE.out ho)
        have ht : (bits .and .u64 (v / 2 ^ k) 1 == 0) = true := by rw [ha, show tailI v k % 2 = 0 by omega]; rfl
        clear ha hl ho
        go_wp2
        go_ret
        exact ⟨ret_i64 (by rw [HO.out]), rfl⟩
    · obtain rfl : k = 64 := by omega
      have HO := Lib.hid (tail_done h0 h1 HE.out)
      clear ha hl
      go_wp2
      go_ret
      exact ⟨ret_i64 (by rw [HO.out]; rfl), rfl⟩
theorem Height_any (v lv : Int) (h0 : 0 ≤ v) (h1 : v < 18446744073709551616) (w : World) : Calls Tryz.prog 114 #[.int .u64 v, .int .i64 lv] w fun e w' => e = .returned (.int .i64 (heightI v lv)) ∧ w = w' := by
  have hs := onesI_le h0 h1
  by_cases hl : lv < 1
  · have HE := Lib.hid (height_none (v := v) hl)
    go_enter Tryz.func114, Tryz.ntmps114
    go_wp2
    go_ret
    exact ⟨ret_i64 HE.out.symm, rfl⟩
  · by_cases hh : lv ≤ (onesI v : Int) + 1
    · have HE := Lib.hid (height_all hl hh)
      go_enter Tryz.func114, Tryz.ntmps114
      go_wp2_with fail
      refine (ones_any v h0 h1 _).mono ?_
      rintro e w' ⟨rfl, rfl⟩
      go_wp2
      all_goals go_ret
      all_goals exact ⟨ret_i64 (by rw [HE.out] <;> omega), rfl⟩
    · have HE := Lib.hid (height_some hl hh)
      go_enter Tryz.func114, Tryz.ntmps114
      go_wp2_with fail
      refine (ones_any v h0 h1 _).mono ?_
      rintro e w' ⟨rfl, rfl⟩
      go_wp2
      all_goals go_ret
      all_goals exact ⟨ret_i64 (by rw [HE.out] <;> omega), rfl⟩
/-- A new list of integers: its value, what it holds, and that nothing else has turned. -/
def Lists (w : World) (l : List Int) (e : Ending) (w' : World) : Prop := ∃ (A : Option Addr) (c : Nat), e = .returned (.slice A l.length c) ∧ Row w' w'.heap.size A (flat (encZ .i64) l) ∧ Below w.heap.size w w'
/-- The numbers of a list fit. -/
def Fits (l : List Int) : Prop := ∀ v ∈ l, 0 ≤ v ∧ v < 18446744073709551616


end Go.Proofs.YtlagghghbpbcbaaGreatDoor.Draw

/- The document's answers for layer 5 (package sundialref05), held to the same plain arithmetic. -/
namespace Go.Proofs.YtlagghghbpbcbaaGreatDoor.DrawRef
set_option maxRecDepth 20000
open Go.ChangeShapes Go.WideShapes Go.RowKit DM Lay Ints Draw


theorem infoInt : (Tryz.prog.info? 3).map (fun i => (i.zero, i.size, i.bytes)) = some (some (.int .i64 0), 1, 8) := by kernel_rfl




end Go.Proofs.YtlagghghbpbcbaaGreatDoor.DrawRef
