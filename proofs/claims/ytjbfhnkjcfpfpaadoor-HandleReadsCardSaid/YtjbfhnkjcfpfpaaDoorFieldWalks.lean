/- The functions of package field (layer 1), each held to the plain arithmetic of XFieldMath: what each call returns, at every word, place and width that the types can hold; no call turns the world. -/
import Derived.Test.YtjbfhnkjcfpfpaaDoorRows
import Derived.Test.YtjbfhnkjcfpfpaaDoorFieldMath
import Derived.WalkKit
import Derived.ProofKit
import Derived.OpenShut
import Derived.Lib.Hide
namespace Go.Proofs.YtjbfhnkjcfpfpaaDoor.Field
set_option maxRecDepth 20000
open Go.ChangeShapes Go.WideShapes Go.ChangeAt Go.RowKit FM

theorem ret_u64 {a b : Int} (h : a = b) : Ending.returned (.int .u64 a) = .returned (.int .u64 b) := by rw [h]
theorem ret_bool {a b : Bool} (h : a = b) : Ending.returned (.bool a) = .returned (.bool b) := by rw [h]

theorem Is_yes (a b : Int) (h : isB a b = true) (w : World) :
    Calls Tryd.prog 40 #[.int .i64 a, .int .i64 b] w fun e w' => e = .returned (.bool true) ∧ w = w' := by
  obtain ⟨h0, h1, h2⟩ := isB_out h
  clear h
  go_enter Tryd.func40, Tryd.ntmps40
  go_wp2
  all_goals go_ret
  all_goals exact ⟨by simp <;> omega, rfl⟩
theorem Is_no (a b : Int) (h : isB a b = false) (ha : a ≤ 9223372036854775807) (w : World) :
    Calls Tryd.prog 40 #[.int .i64 a, .int .i64 b] w fun e w' => e = .returned (.bool false) ∧ w = w' := by
  have hn : ¬ (0 ≤ a ∧ 1 ≤ b ∧ b ≤ 64 - a) := fun x => by rw [isB_true x.1 x.2.1 x.2.2] at h; cases h
  clear h
  by_cases h0 : 0 ≤ a
  · by_cases h1 : 1 ≤ b
    · have h2 : 64 - a < b := by omega
      clear hn
      go_enter Tryd.func40, Tryd.ntmps40
      go_wp2
      all_goals go_ret
      all_goals exact ⟨by simp <;> omega, rfl⟩
    · have h2 : b < 1 := by omega
      clear hn h1
      go_enter Tryd.func40, Tryd.ntmps40
      go_wp2
      all_goals go_ret
      all_goals exact ⟨by simp <;> omega, rfl⟩
  · have h2 : a < 0 := by omega
    clear hn h0
    go_enter Tryd.func40, Tryd.ntmps40
    go_wp2
    all_goals go_ret
    all_goals exact ⟨by simp <;> omega, rfl⟩
theorem Is_any (a b : Int) (ha : a ≤ 9223372036854775807) (w : World) :
    Calls Tryd.prog 40 #[.int .i64 a, .int .i64 b] w fun e w' => e = .returned (.bool (isB a b)) ∧ w = w' := by
  cases h : isB a b
  · exact Is_no a b h ha w
  · exact Is_yes a b h w

theorem cast_low (a b : Nat) (h : a + b ≤ 64) : IntKind.u64.wrap (18446744073709551615 / 2 ^ (64 - a - b) / 2 ^ a * 2 ^ a) = ((maskN a b : Nat) : Int) := by
  have hl := maskN_lt a b h
  rw [show (18446744073709551615 / 2 ^ (64 - a - b) / 2 ^ a * 2 ^ a : Int) = ((18446744073709551615 / 2 ^ (64 - a - b) / 2 ^ a * 2 ^ a : Nat) : Int) by simp, mask_low a b h]
  exact IntWalk.u64_in _ (by omega)
theorem cast_high (a b : Nat) (h : a + b = 64) : IntKind.u64.wrap (18446744073709551615 / 2 ^ a * 2 ^ a) = ((maskN a b : Nat) : Int) := by
  have hl := maskN_lt a b (by omega)
  rw [show (18446744073709551615 / 2 ^ a * 2 ^ a : Int) = ((18446744073709551615 / 2 ^ a * 2 ^ a : Nat) : Int) by simp, mask_high a b h]
  exact IntWalk.u64_in _ (by omega)

theorem bits_any (a b : Nat) (h1 : 1 ≤ b) (h2 : a + b ≤ 64) (w : World) :
    Calls Tryd.prog 41 #[.int .i64 (a : Int), .int .i64 (b : Int)] w fun e w' => e = .returned (.int .u64 ((maskN a b : Nat) : Int)) ∧ w = w' := by
  by_cases h : a + b < 64
  · have H := Lib.hid (cast_low a b h2)
    go_enter Tryd.func41, Tryd.ntmps41
    go_wp2
    all_goals go_ret
    all_goals exact ⟨ret_u64 H.out, rfl⟩
  · by_cases h0 : 0 < a
    · have H := Lib.hid (cast_high a b (by omega))
      have h3 : (64 : Int) ≤ (a : Int) + (b : Int) := by omega
      go_enter Tryd.func41, Tryd.ntmps41
      go_wp2
      all_goals go_ret
      all_goals exact ⟨ret_u64 H.out, rfl⟩
    · obtain rfl : a = 0 := by omega
      obtain rfl : b = 64 := by omega
      go_enter Tryd.func41, Tryd.ntmps41
      go_wp2
      all_goals go_ret
      all_goals exact ⟨ret_u64 (by rw [← mask_all]; rfl), rfl⟩

theorem cast_get (w a b : Nat) : (((w &&& maskN a b : Nat) : Int) / 2 ^ a) = ((getN w a b : Nat) : Int) := by
  rw [← and_mask_shr]; simp
theorem Get_yes (v a b : Nat) (hv : v < 18446744073709551616) (h1 : 1 ≤ b) (h2 : a + b ≤ 64) (w : World) :
    Calls Tryd.prog 32 #[.int .u64 (v : Int), .int .i64 (a : Int), .int .i64 (b : Int)] w fun e w' => e = .returned (.int .u64 ((getN v a b : Nat) : Int)) ∧ w = w' := by
  have hm := maskN_lt a b h2
  have HA := Lib.hid (u64_and_nat v (maskN a b) hv hm)
  have HG := Lib.hid (cast_get v a b)
  have hb := isB_true (a := a) (b := b) (by omega) (by omega) (by omega)
  have HB := Lib.hid hb
  clear hb
  go_enter Tryd.func32, Tryd.ntmps32
  go_wp2_with fail
  refine (Is_yes _ _ HB.out _).mono ?_
  rintro e w' ⟨rfl, rfl⟩
  go_wp2_with fail
  refine (bits_any _ _ h1 h2 _).mono ?_
  rintro e w' ⟨rfl, rfl⟩
  go_wp2
  go_ret
  exact ⟨ret_u64 (by rw [HA.out, HG.out]), rfl⟩
theorem Get_no (v a b : Int) (h : isB a b = false) (ha : a ≤ 9223372036854775807) (w : World) :
    Calls Tryd.prog 32 #[.int .u64 v, .int .i64 a, .int .i64 b] w fun e w' => e = .returned (.int .u64 0) ∧ w = w' := by
  have HB := Lib.hid h
  clear h
  go_enter Tryd.func32, Tryd.ntmps32
  go_wp2_with fail
  refine (Is_no _ _ HB.out ha _).mono ?_
  rintro e w' ⟨rfl, rfl⟩
  go_wp2
  go_ret
  exact ⟨rfl, rfl⟩
/-- Get, of any word, place and width. -/
theorem Get_any (v a b : Int) (h0 : 0 ≤ v) (hv : v < 18446744073709551616) (ha : a ≤ 9223372036854775807) (w : World) :
    Calls Tryd.prog 32 #[.int .u64 v, .int .i64 a, .int .i64 b] w fun e w' => e = .returned (.int .u64 (getI v a b)) ∧ w = w' := by
  unfold getI
  cases h : isB a b
  · exact Get_no v a b h ha w
  · obtain ⟨g0, g1, g2⟩ := isB_out h
    obtain ⟨v, rfl⟩ := Int.eq_ofNat_of_zero_le h0
    obtain ⟨a, rfl⟩ := Int.eq_ofNat_of_zero_le g0
    obtain ⟨b, rfl⟩ := Int.eq_ofNat_of_zero_le (a := b) (by omega)
    exact Get_yes v a b (by omega) (by omega) (by omega) w

theorem cast_put (v a b n : Nat) (hv : v < 18446744073709551616) (h : a + b ≤ 64) :
    bits .or .u64 (bits .andNot .u64 (v : Int) ((maskN a b : Nat) : Int)) (bits .and .u64 (IntKind.u64.wrap ((n : Int) * 2 ^ a)) ((maskN a b : Nat) : Int)) = ((putN v a b n : Nat) : Int) := by
  have hm := maskN_lt a b h
  have e : IntKind.u64.wrap ((n : Int) * 2 ^ a) = ((n * 2 ^ a % 18446744073709551616 : Nat) : Int) := by rw [IntKind.wrap_u64]; simp
  have hr : n * 2 ^ a % 18446744073709551616 < 18446744073709551616 := Nat.mod_lt _ (by decide)
  rw [e, u64_andNot_nat v _ hv hm, u64_and_nat _ _ hr hm, u64_or_nat _ _ (Nat.lt_of_le_of_lt Nat.and_le_left hv) (Nat.lt_of_le_of_lt Nat.and_le_left hr), put_mask v a b n hv h]
theorem Put_yes (v a b n : Nat) (hv : v < 18446744073709551616) (h1 : 1 ≤ b) (h2 : a + b ≤ 64) (w : World) :
    Calls Tryd.prog 33 #[.int .u64 (v : Int), .int .i64 (a : Int), .int .i64 (b : Int), .int .u64 (n : Int)] w fun e w' => e = .returned (.int .u64 ((putN v a b n : Nat) : Int)) ∧ w = w' := by
  have HP := Lib.hid (cast_put v a b n hv h2)
  have HB := Lib.hid (isB_true (a := a) (b := b) (by omega) (by omega) (by omega))
  go_enter Tryd.func33, Tryd.ntmps33
  go_wp2_with fail
  refine (Is_yes _ _ HB.out _).mono ?_
  rintro e w' ⟨rfl, rfl⟩
  go_wp2_with fail
  refine (bits_any _ _ h1 h2 _).mono ?_
  rintro e w' ⟨rfl, rfl⟩
  go_wp2
  go_ret
  exact ⟨ret_u64 HP.out, rfl⟩
theorem Put_no (v a b n : Int) (h : isB a b = false) (ha : a ≤ 9223372036854775807) (w : World) :
    Calls Tryd.prog 33 #[.int .u64 v, .int .i64 a, .int .i64 b, .int .u64 n] w fun e w' => e = .returned (.int .u64 v) ∧ w = w' := by
  have HB := Lib.hid h
  clear h
  go_enter Tryd.func33, Tryd.ntmps33
  go_wp2_with fail
  refine (Is_no _ _ HB.out ha _).mono ?_
  rintro e w' ⟨rfl, rfl⟩
  go_wp2
  go_ret
  exact ⟨rfl, rfl⟩
/-- Put, of any word, place, width and number. -/
theorem Put_any (v a b n : Int) (h0 : 0 ≤ v) (hv : v < 18446744073709551616) (hn : 0 ≤ n) (ha : a ≤ 9223372036854775807) (w : World) :
    Calls Tryd.prog 33 #[.int .u64 v, .int .i64 a, .int .i64 b, .int .u64 n] w fun e w' => e = .returned (.int .u64 (putI v a b n)) ∧ w = w' := by
  unfold putI
  cases h : isB a b
  · exact Put_no v a b n h ha w
  · obtain ⟨g0, g1, g2⟩ := isB_out h
    obtain ⟨v, rfl⟩ := Int.eq_ofNat_of_zero_le h0
    obtain ⟨n, rfl⟩ := Int.eq_ofNat_of_zero_le hn
    obtain ⟨a, rfl⟩ := Int.eq_ofNat_of_zero_le g0
    obtain ⟨b, rfl⟩ := Int.eq_ofNat_of_zero_le (a := b) (by omega)
    exact Put_yes v a b n (by omega) (by omega) (by omega) w
theorem High_any (v : Int) (h0 : 0 ≤ v) (hv : v < 18446744073709551616) (w : World) : Calls Tryd.prog 19 #[.int .u64 v] w fun e w' => e = .returned (.int .u64 (v / 4294967296)) ∧ w = w' := by
  obtain ⟨v, rfl⟩ := Int.eq_ofNat_of_zero_le h0
  have HH := Lib.hid (get_high v (by omega))
  have hv' : v < 18446744073709551616 := by omega
  go_enter Tryd.func19, Tryd.ntmps19
  go_wp2_with fail
  refine (Get_yes v 32 32 hv' (by decide) (by decide) _).mono ?_
  rintro e w' ⟨rfl, rfl⟩
  go_wp2
  go_ret
  exact ⟨ret_u64 (by rw [HH.out]; simp), rfl⟩
theorem Low_any (v : Int) (h0 : 0 ≤ v) (hv : v < 18446744073709551616) (w : World) : Calls Tryd.prog 17 #[.int .u64 v] w fun e w' => e = .returned (.int .u64 (v % 4294967296)) ∧ w = w' := by
  obtain ⟨v, rfl⟩ := Int.eq_ofNat_of_zero_le h0
  have HL := Lib.hid (get_low v)
  have hv' : v < 18446744073709551616 := by omega
  go_enter Tryd.func17, Tryd.ntmps17
  go_wp2_with fail
  refine (Get_yes v 0 32 hv' (by decide) (by decide) _).mono ?_
  rintro e w' ⟨rfl, rfl⟩
  go_wp2
  go_ret
  exact ⟨ret_u64 (by rw [HL.out]; simp), rfl⟩
theorem Pair_any (h l : Int) (h0 : 0 ≤ h) (l0 : 0 ≤ l) (hl : l < 18446744073709551616) (w : World) : Calls Tryd.prog 24 #[.int .u64 h, .int .u64 l] w fun e w' => e = .returned (.int .u64 (h % 4294967296 * 4294967296 + l % 4294967296)) ∧ w = w' := by
  obtain ⟨h, rfl⟩ := Int.eq_ofNat_of_zero_le h0
  obtain ⟨l, rfl⟩ := Int.eq_ofNat_of_zero_le l0
  have hl' : l < 18446744073709551616 := by omega
  have HP := Lib.hid (put_high l h hl')
  go_enter Tryd.func24, Tryd.ntmps24
  go_wp2_with fail
  refine (Put_yes l 32 32 h hl' (by decide) (by decide) _).mono ?_
  rintro e w' ⟨rfl, rfl⟩
  go_wp2
  go_ret
  exact ⟨ret_u64 (by rw [HP.out]; simp), rfl⟩
end Go.Proofs.YtjbfhnkjcfpfpaaDoor.Field
