/- The functions of package refer (layer 2), each held to plain arithmetic: what each call returns, at every word, generation and index that the types can hold; no call turns the world. -/
import Derived.Test.YtjbfhnkjcfpfpaaDoorFieldWalks
import Derived.Test.YtjbfhnkjcfpfpaaDoorReferMath
namespace Go.Proofs.YtjbfhnkjcfpfpaaDoor.Refer
open Go.ChangeShapes Go.WideShapes Go.ChangeAt Go.RowKit FM RM
open Go.Proofs.YtjbfhnkjcfpfpaaDoor.Field (ret_u64 ret_bool)

theorem ret_i64 {a b : Int} (h : a = b) : Ending.returned (.int .i64 a) = .returned (.int .i64 b) := by rw [h]

theorem Gen_any (v : Int) (h0 : 0 ≤ v) (hv : v < 18446744073709551616) (w : World) : Calls Tryd.prog 25 #[.int .u64 v] w fun e w' => e = .returned (.int .u64 (v / 4294967296)) ∧ w = w' := by
  go_enter Tryd.func25, Tryd.ntmps25
  go_wp2_with fail
  refine (Field.High_any v h0 hv _).mono ?_
  rintro e w' ⟨rfl, rfl⟩
  go_wp2
  go_ret
  exact ⟨rfl, rfl⟩
theorem Index_any (v : Int) (h0 : 0 ≤ v) (hv : v < 18446744073709551616) (w : World) : Calls Tryd.prog 16 #[.int .u64 v] w fun e w' => e = .returned (.int .i64 (v % 4294967296 / 2)) ∧ w = w' := by
  have HG := Lib.hid (get_index v h0)
  have b0 : 0 ≤ v % 4294967296 / 2 := by omega
  have b1 : v % 4294967296 / 2 ≤ 2147483647 := by omega
  go_enter Tryd.func16, Tryd.ntmps16
  go_wp2_with fail
  refine (Field.Get_any v 1 31 h0 hv (by decide) _).mono ?_
  rintro e w' ⟨rfl, rfl⟩
  rw [HG.out]
  go_wp2
  go_ret
  exact ⟨rfl, rfl⟩
theorem Marked_any (v : Int) (h0 : 0 ≤ v) (hv : v < 18446744073709551616) (w : World) : Calls Tryd.prog 15 #[.int .u64 v] w fun e w' => e = .returned (.bool (decide (v % 2 = 1))) ∧ w = w' := by
  have HG := Lib.hid (get_mark v h0)
  go_enter Tryd.func15, Tryd.ntmps15
  go_wp2_with fail
  refine (Field.Get_any v 0 1 h0 hv (by decide) _).mono ?_
  rintro e w' ⟨rfl, rfl⟩
  rw [HG.out]
  go_wp2
  go_ret
  exact ⟨ret_bool (by first | rfl | simp), rfl⟩
theorem None_any (v : Int) (h0 : 0 ≤ v) (hv : v < 18446744073709551616) (w : World) : Calls Tryd.prog 20 #[.int .u64 v] w fun e w' => e = .returned (.bool (decide (v % 4294967296 / 2 = 0))) ∧ w = w' := by
  go_enter Tryd.func20, Tryd.ntmps20
  go_wp2_with fail
  refine (Index_any v h0 hv _).mono ?_
  rintro e w' ⟨rfl, rfl⟩
  go_wp2
  go_ret
  exact ⟨ret_bool (by first | rfl | simp), rfl⟩

theorem Of_yes (g i : Int) (g0 : 0 ≤ g) (g1 : g ≤ 4294967295) (i1 : 1 ≤ i) (i2 : i ≤ 2147483647) (w : World) : Calls Tryd.prog 18 #[.int .u64 g, .int .i64 i] w fun e w' => e = .returned (.int .u64 (g * 4294967296 + i * 2)) ∧ w = w' := by
  have HP := Lib.hid (put_index g i g0 g1 i1 i2)
  have b0 : 0 ≤ g * 4294967296 := by omega
  have b1 : g * 4294967296 < 18446744073709551616 := by omega
  have HQ := Lib.hid (pair_zero g g0 g1)
  have B0 := Lib.hid b0
  have B1 := Lib.hid b1
  clear b0 b1
  go_enter Tryd.func18, Tryd.ntmps18
  go_wp2_with fail
  refine (Field.Pair_any g 0 g0 (by decide) (by decide) _).mono ?_
  rintro e w' ⟨rfl, rfl⟩
  rw [HQ.out]
  go_wp2_with fail
  refine (Field.Put_any (g * 4294967296) 1 31 i B0.out B1.out (by omega) (by decide) _).mono ?_
  rintro e w' ⟨rfl, rfl⟩
  rw [HP.out]
  go_wp2
  go_ret
  exact ⟨rfl, rfl⟩
theorem Of_no (g i : Int) (h : ¬ (g ≤ 4294967295 ∧ 1 ≤ i ∧ i ≤ 2147483647)) (w : World) : Calls Tryd.prog 18 #[.int .u64 g, .int .i64 i] w fun e w' => e = .returned (.int .u64 0) ∧ w = w' := by
  by_cases h1 : 4294967295 < g
  · clear h
    go_enter Tryd.func18, Tryd.ntmps18
    go_wp2
    all_goals go_ret
    all_goals exact ⟨rfl, rfl⟩
  · by_cases h2 : i < 1
    · clear h
      go_enter Tryd.func18, Tryd.ntmps18
      go_wp2
      all_goals go_ret
      all_goals exact ⟨rfl, rfl⟩
    · have h3 : 2147483647 < i := by omega
      clear h
      go_enter Tryd.func18, Tryd.ntmps18
      go_wp2
      all_goals go_ret
      all_goals exact ⟨rfl, rfl⟩
theorem Of_any (g i : Int) (g0 : 0 ≤ g) (w : World) : Calls Tryd.prog 18 #[.int .u64 g, .int .i64 i] w fun e w' => e = .returned (.int .u64 (ofI g i)) ∧ w = w' := by
  by_cases h : g ≤ 4294967295 ∧ 1 ≤ i ∧ i ≤ 2147483647
  · rw [ofI_yes h]; exact Of_yes g i g0 h.1 h.2.1 h.2.2 w
  · rw [ofI_no h]; exact Of_no g i h w
end Go.Proofs.YtjbfhnkjcfpfpaaDoor.Refer
