import Derived.Test.YtlagghghbpbcbaaGreatDoorRows
import Derived.Test.YtlagghghbpbcbaaGreatDoorStartComesAllP3
import Derived.WalkKit
import Derived.ProofKit
import Derived.OpenShut
import Derived.Lib.Hide
/- The functions of package field (layer 1), each held to the plain arithmetic of XFieldMath: what each call returns, at every word, place and width that the types can hold; no call turns the world. -/
namespace Go.Proofs.YtlagghghbpbcbaaGreatDoor.Field
set_option maxRecDepth 20000
open Go.ChangeShapes Go.WideShapes Go.ChangeAt Go.RowKit FM

theorem ret_u64 {a b : Int} (h : a = b) : Ending.returned (.int .u64 a) = .returned (.int .u64 b) := by rw [h]
theorem ret_bool {a b : Bool} (h : a = b) : Ending.returned (.bool a) = .returned (.bool b) := by rw [h]

theorem Is_yes (a b : Int) (h : isB a b = true) (w : World) :
    Calls Tryz.prog 74 #[.int .i64 a, .int .i64 b] w fun e w' => e = .returned (.bool true) ∧ w = w' := by
  obtain ⟨h0, h1, h2⟩ := isB_out h
  clear h
  go_enter Tryz.func74, Tryz.ntmps74
  go_wp2
  all_goals go_ret
  all_goals exact ⟨by simp <;> omega, rfl⟩
theorem Is_no (a b : Int) (h : isB a b = false) (ha : a ≤ 9223372036854775807) (w : World) :
    Calls Tryz.prog 74 #[.int .i64 a, .int .i64 b] w fun e w' => e = .returned (.bool false) ∧ w = w' := by
  have hn : ¬ (0 ≤ a ∧ 1 ≤ b ∧ b ≤ 64 - a) := fun x => by rw [isB_true x.1 x.2.1 x.2.2] at h; cases h
  clear h
  by_cases h0 : 0 ≤ a
  · by_cases h1 : 1 ≤ b
    · have h2 : 64 - a < b := by omega
      clear hn
      go_enter Tryz.func74, Tryz.ntmps74
      go_wp2
      all_goals go_ret
      all_goals exact ⟨by simp <;> omega, rfl⟩
    · have h2 : b < 1 := by omega
      clear hn h1
      go_enter Tryz.func74, Tryz.ntmps74
      go_wp2
      all_goals go_ret
      all_goals exact ⟨by simp <;> omega, rfl⟩
  · have h2 : a < 0 := by omega
    clear hn h0
    go_enter Tryz.func74, Tryz.ntmps74
    go_wp2
    all_goals go_ret
    all_goals exact ⟨by simp <;> omega, rfl⟩
theorem cast_low (a b : Nat) (h : a + b ≤ 64) : IntKind.u64.wrap (18446744073709551615 / 2 ^ (64 - a - b) / 2 ^ a * 2 ^ a) = ((maskN a b : Nat) : Int) := by
  have hl := maskN_lt a b h
  rw [show (18446744073709551615 / 2 ^ (64 - a - b) / 2 ^ a * 2 ^ a : Int) = ((18446744073709551615 / 2 ^ (64 - a - b) / 2 ^ a * 2 ^ a : Nat) : Int) by simp, mask_low a b h]
  exact IntWalk.u64_in _ (by omega)
theorem cast_high (a b : Nat) (h : a + b = 64) : IntKind.u64.wrap (18446744073709551615 / 2 ^ a * 2 ^ a) = ((maskN a b : Nat) : Int) := by
  have hl := maskN_lt a b (by omega)
  rw [show (18446744073709551615 / 2 ^ a * 2 ^ a : Int) = ((18446744073709551615 / 2 ^ a * 2 ^ a : Nat) : Int) by simp, mask_high a b h]
  exact IntWalk.u64_in _ (by omega)

theorem bits_any (a b : Nat) (h1 : 1 ≤ b) (h2 : a + b ≤ 64) (w : World) :
    Calls Tryz.prog 75 #[.int .i64 (a : Int), .int .i64 (b : Int)] w fun e w' => e = .returned (.int .u64 ((maskN a b : Nat) : Int)) ∧ w = w' := by
  by_cases h : a + b < 64
  · have H := Lib.hid (cast_low a b h2)
    go_enter Tryz.func75, Tryz.ntmps75
    go_wp2
    all_goals go_ret
    all_goals exact ⟨ret_u64 H.out, rfl⟩
  · by_cases h0 : 0 < a
    · have H := Lib.hid (cast_high a b (by omega))
      have h3 : (64 : Int) ≤ (a : Int) + (b : Int) := by omega
      go_enter Tryz.func75, Tryz.ntmps75
      go_wp2
      all_goals go_ret
      all_goals exact ⟨ret_u64 H.out, rfl⟩
    · obtain rfl : a = 0 := by omega
      obtain rfl : b = 64 := by omega
      go_enter Tryz.func75, Tryz.ntmps75
      go_wp2
      all_goals go_ret
      all_goals exact ⟨ret_u64 (by rw [← mask_all]; rfl), rfl⟩

theorem cast_get (w a b : Nat) : (((w &&& maskN a b : Nat) : Int) / 2 ^ a) = ((getN w a b : Nat) : Int) := by
  rw [← and_mask_shr]; simp
theorem Get_yes (v a b : Nat) (hv : v < 18446744073709551616) (h1 : 1 ≤ b) (h2 : a + b ≤ 64) (w : World) :
    Calls Tryz.prog 69 #[.int .u64 (v : Int), .int .i64 (a : Int), .int .i64 (b : Int)] w fun e w' => e = .returned (.int .u64 ((getN v a b : Nat) : Int)) ∧ w = w' := by
  have hm := maskN_lt a b h2
  have HA := Lib.hid (u64_and_nat v (maskN a b) hv hm)
  have HG := Lib.hid (cast_get v a b)
  have hb := isB_true (a := a) (b := b) (by omega) (by omega) (by omega)
  have HB := Lib.hid hb
  clear hb
  go_enter Tryz.func69, Tryz.ntmps69
  go_wp2_with fail
  refine (Is_yes _ _ HB.out _).mono ?_
  rintro e w' ⟨rfl, rfl⟩
  go_wp2_with fail
  refine (bits_any _ _ h1 h2 _).mono ?_
  rintro e w' ⟨rfl, rfl⟩
  go_wp2
  go_ret
  exact ⟨ret_u64 (by rw [HA.out, HG.out]), rfl⟩
theorem Get_no (v a b : Int) (h : isB a b = false) (ha : a ≤ 9223372036854775807) (w : World) :
    Calls Tryz.prog 69 #[.int .u64 v, .int .i64 a, .int .i64 b] w fun e w' => e = .returned (.int .u64 0) ∧ w = w' := by
  have HB := Lib.hid h
  clear h
  go_enter Tryz.func69, Tryz.ntmps69
  go_wp2_with fail
  refine (Is_no _ _ HB.out ha _).mono ?_
  rintro e w' ⟨rfl, rfl⟩
  go_wp2
  go_ret
  exact ⟨rfl, rfl⟩
/-- Get, of any word, place and width. -/
theorem Get_any (v a b : Int) (h0 : 0 ≤ v) (hv : v < 18446744073709551616) (ha : a ≤ 9223372036854775807) (w : World) :
    Calls Tryz.prog 69 #[.int .u64 v, .int .i64 a, .int .i64 b] w fun e w' => e = .returned (.int .u64 (getI v a b)) ∧ w = w' := by
  unfold getI
  cases h : isB a b
  · exact Get_no v a b h ha w
  · obtain ⟨g0, g1, g2⟩ := isB_out h
    obtain ⟨v, rfl⟩ := Int.eq_ofNat_of_zero_le h0
    obtain ⟨a, rfl⟩ := Int.eq_ofNat_of_zero_le g0
    obtain ⟨b, rfl⟩ := Int.eq_ofNat_of_zero_le (a := b) (by omega)
    exact Get_yes v a b (by omega) (by omega) (by omega) w

theorem cast_put (v a b n : Nat) (hv : v < 18446744073709551616) (h : a + b ≤ 64) :
    bits .or .u64 (bits .andNot .u64 (v : Int) ((maskN a b : Nat) : Int)) (bits .and .u64 (IntKind.u64.wrap ((n : Int) * 2 ^ a)) ((maskN a b : Nat) : Int)) = ((putN v a b n : Nat) : Int) := by
  have hm := maskN_lt a b h
  have e : IntKind.u64.wrap ((n : Int) * 2 ^ a) = ((n * 2 ^ a % 18446744073709551616 : Nat) : Int) := by rw [IntKind.wrap_u64]; simp
  have hr : n * 2 ^ a % 18446744073709551616 < 18446744073709551616 := Nat.mod_lt _ (by decide)
  rw [e, u64_andNot_nat v _ hv hm, u64_and_nat _ _ hr hm, u64_or_nat _ _ (Nat.lt_of_le_of_lt Nat.and_le_left hv) (Nat.lt_of_le_of_lt Nat.and_le_left hr), put_mask v a b n hv h]
theorem Put_yes (v a b n : Nat) (hv : v < 18446744073709551616) (h1 : 1 ≤ b) (h2 : a + b ≤ 64) (w : World) :
    Calls Tryz.prog 46 #[.int .u64 (v : Int), .int .i64 (a : Int), .int .i64 (b : Int), .int .u64 (n : Int)] w fun e w' => e = .returned (.int .u64 ((putN v a b n : Nat) : Int)) ∧ w = w' := by
  have HP := Lib.hid (cast_put v a b n hv h2)
  have HB := Lib.hid (isB_true (a := a) (b := b) (by omega) (by omega) (by omega))
  go_enter Tryz.func46, Tryz.ntmps46
  go_wp2_with fail
  refine (Is_yes _ _ HB.out _).mono ?_
  rintro e w' ⟨rfl, rfl⟩
  go_wp2_with fail
  refine (bits_any _ _ h1 h2 _).mono ?_
  rintro e w' ⟨rfl, rfl⟩
  go_wp2
  go_ret
  exact ⟨ret_u64 HP.out, rfl⟩
theorem Put_no (v a b n : Int) (h : isB a b = false) (ha : a ≤ 9223372036854775807) (w : World) :
    Calls Tryz.prog 46 #[.int .u64 v, .int .i64 a, .int .i64 b, .int .u64 n] w fun e w' => e = .returned (.int .u64 v) ∧ w = w' := by
  have HB := Lib.hid h
  clear h
  go_enter Tryz.func46, Tryz.ntmps46
  go_wp2_with fail
  refine (Is_no _ _ HB.out ha _).mono ?_
  rintro e w' ⟨rfl, rfl⟩
  go_wp2
  go_ret
  exact ⟨rfl, rfl⟩
/-- Put, of any word, place, width and number. -/
theorem Put_any (v a b n : Int) (h0 : 0 ≤ v) (hv : v < 18446744073709551616) (hn : 0 ≤ n) (ha : a ≤ 9223372036854775807) (w : World) :
    Calls Tryz.prog 46 #[.int .u64 v, .int .i64 a, .int .i64 b, .int .u64 n] w fun e w' => e = .returned (.int .u64 (putI v a b n)) ∧ w = w' := by
  unfold putI
  cases h : isB a b
  · exact Put_no v a b n h ha w
  · obtain ⟨g0, g1, g2⟩ := isB_out h
    obtain ⟨v, rfl⟩ := Int.eq_ofNat_of_zero_le h0
    obtain ⟨n, rfl⟩ := Int.eq_ofNat_of_zero_le hn
    obtain ⟨a, rfl⟩ := Int.eq_ofNat_of_zero_le g0
    obtain ⟨b, rfl⟩ := Int.eq_ofNat_of_zero_le (a := b) (by omega)
    exact Put_yes v a b n (by omega) (by omega) (by omega) w
theorem High_any (v : Int) (h0 : 0 ≤ v) (hv : v < 18446744073709551616) (w : World) : Calls Tryz.prog 48 #[.int .u64 v] w fun e w' => e = .returned (.int .u64 (v / 4294967296)) ∧ w = w' := by
  obtain ⟨v, rfl⟩ := Int.eq_ofNat_of_zero_le h0
  have HH := Lib.hid (get_high v (by omega))
  have hv' : v < 18446744073709551616 := by omega
  go_enter Tryz.func48, Tryz.ntmps48
  go_wp2_with fail
  refine (Get_yes v 32 32 hv' (by decide) (by decide) _).mono ?_
  rintro e w' ⟨rfl, rfl⟩
  go_wp2
  go_ret
  exact ⟨ret_u64 (by rw [HH.out]; simp), rfl⟩
theorem Low_any (v : Int) (h0 : 0 ≤ v) (hv : v < 18446744073709551616) (w : World) : Calls Tryz.prog 39 #[.int .u64 v] w fun e w' => e = .returned (.int .u64 (v % 4294967296)) ∧ w = w' := by
  obtain ⟨v, rfl⟩ := Int.eq_ofNat_of_zero_le h0
  have HL := Lib.hid (get_low v)
  have hv' : v < 18446744073709551616 := by omega
  go_enter Tryz.func39, Tryz.ntmps39
  go_wp2_with fail
  refine (Get_yes v 0 32 hv' (by decide) (by decide) _).mono ?_
  rintro e w' ⟨rfl, rfl⟩
  go_wp2
  go_ret
  exact ⟨ret_u64 (by rw [HL.out]; simp), rfl⟩
theorem Pair_any (h l : Int) (h0 : 0 ≤ h) (l0 : 0 ≤ l) (hl : l < 18446744073709551616) (w : World) : Calls Tryz.prog 47 #[.int .u64 h, .int .u64 l] w fun e w' => e = .returned (.int .u64 (h % 4294967296 * 4294967296 + l % 4294967296)) ∧ w = w' := by
  obtain ⟨h, rfl⟩ := Int.eq_ofNat_of_zero_le h0
  obtain ⟨l, rfl⟩ := Int.eq_ofNat_of_zero_le l0
  have hl' : l < 18446744073709551616 := by omega
  have HP := Lib.hid (put_high l h hl')
  go_enter Tryz.func47, Tryz.ntmps47
  go_wp2_with fail
  refine (Put_yes l 32 32 h hl' (by decide) (by decide) _).mono ?_
  rintro e w' ⟨rfl, rfl⟩
  go_wp2
  go_ret
  exact ⟨ret_u64 (by rw [HP.out]; simp), rfl⟩
end Go.Proofs.YtlagghghbpbcbaaGreatDoor.Field

/- The functions of package refer (layer 2), each held to plain arithmetic: what each call returns, at every word, generation and index that the types can hold; no call turns the world. -/
namespace Go.Proofs.YtlagghghbpbcbaaGreatDoor.Refer
open Go.ChangeShapes Go.WideShapes Go.ChangeAt Go.RowKit FM RM
open Go.Proofs.YtlagghghbpbcbaaGreatDoor.Field (ret_u64 ret_bool)

theorem ret_i64 {a b : Int} (h : a = b) : Ending.returned (.int .i64 a) = .returned (.int .i64 b) := by rw [h]

theorem Gen_any (v : Int) (h0 : 0 ≤ v) (hv : v < 18446744073709551616) (w : World) : Calls Tryz.prog 21 #[.int .u64 v] w fun e w' => e = .returned (.int .u64 (v / 4294967296)) ∧ w = w' := by
  go_enter Tryz.func21, Tryz.ntmps21
  go_wp2_with fail
  refine (Field.High_any v h0 hv _).mono ?_
  rintro e w' ⟨rfl, rfl⟩
  go_wp2
  go_ret
  exact ⟨rfl, rfl⟩
theorem Index_any (v : Int) (h0 : 0 ≤ v) (hv : v < 18446744073709551616) (w : World) : Calls Tryz.prog 36 #[.int .u64 v] w fun e w' => e = .returned (.int .i64 (v % 4294967296 / 2)) ∧ w = w' := by
  have HG := Lib.hid (get_index v h0)
  have b0 : 0 ≤ v % 4294967296 / 2 := by omega
  have b1 : v % 4294967296 / 2 ≤ 2147483647 := by omega
  go_enter Tryz.func36, Tryz.ntmps36
  go_wp2_with fail
  refine (Field.Get_any v 1 31 h0 hv (by decide) _).mono ?_
  rintro e w' ⟨rfl, rfl⟩
  rw [HG.out]
  go_wp2
  go_ret
  exact ⟨rfl, rfl⟩
theorem Marked_any (v : Int) (h0 : 0 ≤ v) (hv : v < 18446744073709551616) (w : World) : Calls Tryz.prog 207 #[.int .u64 v] w fun e w' => e = .returned (.bool (decide (v % 2 = 1))) ∧ w = w' := by
  have HG := Lib.hid (get_mark v h0)
  go_enter Tryz.func207, Tryz.ntmps207
  go_wp2_with fail
  refine (Field.Get_any v 0 1 h0 hv (by decide) _).mono ?_
  rintro e w' ⟨rfl, rfl⟩
  rw [HG.out]
  go_wp2
  go_ret
  exact ⟨ret_bool (by first | rfl | simp), rfl⟩
theorem Plain_any (v : Int) (h0 : 0 ≤ v) (hv : v < 18446744073709551616) (w : World) : Calls Tryz.prog 209 #[.int .u64 v] w fun e w' => e = .returned (.int .u64 (v - v % 2)) ∧ w = w' := by
  have HG := Lib.hid (put_zero v h0)
  go_enter Tryz.func209, Tryz.ntmps209
  go_wp2_with fail
  refine (Field.Put_any v 0 1 0 h0 hv (by decide) (by decide) _).mono ?_
  rintro e w' ⟨rfl, rfl⟩
  rw [HG.out]
  go_wp2
  go_ret
  exact ⟨rfl, rfl⟩
theorem None_any (v : Int) (h0 : 0 ≤ v) (hv : v < 18446744073709551616) (w : World) : Calls Tryz.prog 213 #[.int .u64 v] w fun e w' => e = .returned (.bool (decide (v % 4294967296 / 2 = 0))) ∧ w = w' := by
  go_enter Tryz.func213, Tryz.ntmps213
  go_wp2_with fail
  refine (Index_any v h0 hv _).mono ?_
  rintro e w' ⟨rfl, rfl⟩
  go_wp2
  go_ret
  exact ⟨ret_bool (by first | rfl | simp), rfl⟩

theorem Of_yes (g i : Int) (g0 : 0 ≤ g) (g1 : g ≤ 4294967295) (i1 : 1 ≤ i) (i2 : i ≤ 2147483647) (w : World) : Calls Tryz.prog 17 #[.int .u64 g, .int .i64 i] w fun e w' => e = .returned (.int .u64 (g * 4294967296 + i * 2)) ∧ w = w' := by
  have HP := Lib.hid (put_index g i g0 g1 i1 i2)
  have b0 : 0 ≤ g * 4294967296 := by omega
  have b1 : g * 4294967296 < 18446744073709551616 := by omega
  have HQ := Lib.hid (pair_zero g g0 g1)
  have B0 := Lib.hid b0
  have B1 := Lib.hid b1
  clear b0 b1
  go_enter Tryz.func17, Tryz.ntmps17
  go_wp2_with fail
  refine (Field.Pair_any g 0 g0 (by decide) (by decide) _).mono ?_
  rintro e w' ⟨rfl, rfl⟩
  rw [HQ.out]
  go_wp2_with fail
  refine (Field.Put_any (g * 4294967296) 1 31 i B0.out B1.out (by omega) (by decide) _).mono ?_
  rintro e w' ⟨rfl, rfl⟩
  rw [HP.out]
  go_wp2
  go_ret
  exact ⟨rfl, rfl⟩
theorem Of_no (g i : Int) (h : ¬ (g ≤ 4294967295 ∧ 1 ≤ i ∧ i ≤ 2147483647)) (w : World) : Calls Tryz.prog 17 #[.int .u64 g, .int .i64 i] w fun e w' => e = .returned (.int .u64 0) ∧ w = w' := by
  by_cases h1 : 4294967295 < g
  · clear h
    go_enter Tryz.func17, Tryz.ntmps17
    go_wp2
    all_goals go_ret
    all_goals exact ⟨rfl, rfl⟩
  · by_cases h2 : i < 1
    · clear h
      go_enter Tryz.func17, Tryz.ntmps17
      go_wp2
      all_goals go_ret
      all_goals exact ⟨rfl, rfl⟩
    · have h3 : 2147483647 < i := by omega
      clear h
      go_enter Tryz.func17, Tryz.ntmps17
      go_wp2
      all_goals go_ret
      all_goals exact ⟨rfl, rfl⟩
theorem Of_any (g i : Int) (g0 : 0 ≤ g) (w : World) : Calls Tryz.prog 17 #[.int .u64 g, .int .i64 i] w fun e w' => e = .returned (.int .u64 (ofI g i)) ∧ w = w' := by
  by_cases h : g ≤ 4294967295 ∧ 1 ≤ i ∧ i ≤ 2147483647
  · rw [ofI_yes h]; exact Of_yes g i g0 h.1 h.2.1 h.2.2 w
  · rw [ofI_no h]; exact Of_no g i h w
end Go.Proofs.YtlagghghbpbcbaaGreatDoor.Refer

/- The document's own answer for layer 2 (package sundialref02), each function held to the same plain arithmetic as package refer: what each call returns; no call turns the world. -/
namespace Go.Proofs.YtlagghghbpbcbaaGreatDoor.Ref02
set_option maxRecDepth 20000
open Go.ChangeShapes Go.WideShapes Go.ChangeAt Go.RowKit FM RM
open Go.Proofs.YtlagghghbpbcbaaGreatDoor.Field (ret_u64 ret_bool)

theorem Index_any (v : Int) (h0 : 0 ≤ v) (hv : v < 18446744073709551616) (w : World) : Calls Tryz.prog 50 #[.int .u64 v] w fun e w' => e = .returned (.int .i64 (v % 4294967296 / 2)) ∧ w = w' := by
  have b0 : 0 ≤ v % 4294967296 / 2 := by omega
  have b1 : v % 4294967296 / 2 ≤ 2147483647 := by omega
  go_enter Tryz.func50, Tryz.ntmps50
  go_wp2
  go_ret
  exact ⟨rfl, rfl⟩
theorem Marked_any (v : Int) (h0 : 0 ≤ v) (hv : v < 18446744073709551616) (w : World) : Calls Tryz.prog 65 #[.int .u64 v] w fun e w' => e = .returned (.bool (decide (v % 2 = 1))) ∧ w = w' := by
  go_enter Tryz.func65, Tryz.ntmps65
  go_wp2
  go_ret
  exact ⟨ret_bool (by first | rfl | simp), rfl⟩
theorem Plain_any (v : Int) (h0 : 0 ≤ v) (hv : v < 18446744073709551616) (w : World) : Calls Tryz.prog 68 #[.int .u64 v] w fun e w' => e = .returned (.int .u64 (v - v % 2)) ∧ w = w' := by
  have b0 : 0 ≤ v - v % 2 := by omega
  have b1 : v - v % 2 ≤ 18446744073709551615 := by omega
  go_enter Tryz.func68, Tryz.ntmps68
  go_wp2
  go_ret
  exact ⟨rfl, rfl⟩
theorem None_any (v : Int) (h0 : 0 ≤ v) (hv : v < 18446744073709551616) (w : World) : Calls Tryz.prog 66 #[.int .u64 v] w fun e w' => e = .returned (.bool (decide (v % 4294967296 / 2 = 0))) ∧ w = w' := by
  go_enter Tryz.func66, Tryz.ntmps66
  go_wp2_with fail
  refine (Index_any v h0 hv _).mono ?_
  rintro e w' ⟨rfl, rfl⟩
  go_wp2
  go_ret
  exact ⟨ret_bool (by first | rfl | simp), rfl⟩
end Go.Proofs.YtlagghghbpbcbaaGreatDoor.Ref02
