/- The document's own answer for layer 1 (package sundialref01), each function held to the same plain arithmetic as package field: what each call returns; no call turns the world. -/
import Derived.Test.YtlahojinplmojaaFieldWalks
namespace Go.Proofs.Ytlahojinplmojaa.Ref01
open Go.ChangeShapes Go.WideShapes Go.ChangeAt Go.RowKit FM
open Go.Proofs.Ytlahojinplmojaa.Field (ret_u64 ret_bool)

theorem Is_yes (a b : Int) (h : isB a b = true) (w : World) :
    Calls Try.prog 7 #[.int .i64 a, .int .i64 b] w fun e w' => e = .returned (.bool true) ∧ w = w' := by
  obtain ⟨h0, h1, h2⟩ := isB_out h
  clear h
  have h3 : a < 64 := by omega
  go_enter Try.func7, Try.ntmps7
  go_wp2
  all_goals go_ret
  all_goals exact ⟨by simp <;> omega, rfl⟩
theorem Is_no (a b : Int) (h : isB a b = false) (w : World) :
    Calls Try.prog 7 #[.int .i64 a, .int .i64 b] w fun e w' => e = .returned (.bool false) ∧ w = w' := by
  have hn : ¬ (0 ≤ a ∧ 1 ≤ b ∧ b ≤ 64 - a) := fun x => by rw [isB_true x.1 x.2.1 x.2.2] at h; cases h
  clear h
  by_cases h0 : 0 ≤ a
  · by_cases h3 : a < 64
    · by_cases h1 : 1 ≤ b
      · have h2 : 64 - a < b := by omega
        clear hn
        go_enter Try.func7, Try.ntmps7
        go_wp2
        all_goals go_ret
        all_goals exact ⟨by simp <;> omega, rfl⟩
      · have h2 : b < 1 := by omega
        clear hn h1
        go_enter Try.func7, Try.ntmps7
        go_wp2
        all_goals go_ret
        all_goals exact ⟨by simp <;> omega, rfl⟩
    · have h2 : 64 ≤ a := by omega
      clear hn h3
      go_enter Try.func7, Try.ntmps7
      go_wp2
      all_goals go_ret
      all_goals exact ⟨by simp <;> omega, rfl⟩
  · have h2 : a < 0 := by omega
    clear hn h0
    go_enter Try.func7, Try.ntmps7
    go_wp2
    all_goals go_ret
    all_goals exact ⟨by simp <;> omega, rfl⟩
theorem Is_any (a b : Int) (w : World) :
    Calls Try.prog 7 #[.int .i64 a, .int .i64 b] w fun e w' => e = .returned (.bool (isB a b)) ∧ w = w' := by
  cases h : isB a b
  · exact Is_no a b h w
  · exact Is_yes a b h w

theorem cast_bit (v k : Nat) : ((v : Int) / 2 ^ k % 2) = ((bitN v k : Nat) : Int) := by
  unfold bitN; simp
/-- A word's bit, at any place from 0 to 63. -/
theorem Bit_any (v : Nat) (k : Int) (hk0 : 0 ≤ k) (hk : k < 64) (w : World) :
    Calls Try.prog 20 #[.int .u64 (v : Int), .int .i64 k] w fun e w' => e = .returned (.int .u64 ((bitN v k.toNat : Nat) : Int)) ∧ w = w' := by
  obtain ⟨k, rfl⟩ := Int.eq_ofNat_of_zero_le hk0
  rw [Int.toNat_natCast]
  have H := Lib.hid (cast_bit v k)
  go_enter Try.func20, Try.ntmps20
  go_wp2
  all_goals go_ret
  all_goals exact ⟨ret_u64 H.out, rfl⟩

theorem Get_yes (v a b : Nat) (h1 : 1 ≤ b) (h2 : a + b ≤ 64) (w : World) :
    Calls Try.prog 9 #[.int .u64 (v : Int), .int .i64 (a : Int), .int .i64 (b : Int)] w fun e w' => e = .returned (.int .u64 ((getN v a b : Nat) : Int)) ∧ w = w' := by
  have HB := Lib.hid (isB_true (a := a) (b := b) (by omega) (by omega) (by omega))
  go_enter Try.func9, Try.ntmps9
  go_wp2_with fail
  refine (Is_yes _ _ HB.out _).mono ?_
  rintro e w' ⟨rfl, rfl⟩
  go_wp2_with fail
  go_loop [7, 8] (fun n k => ∃ j : Nat, j ≤ b ∧ k = .int .i64 ((j : Int) - 1) ∧ n = .int .u64 ((getN v (a + j) (b - j) : Nat) : Int)) (fun _ k => (intOf k + 1).toNat)
  case atStart => exact ⟨b, Nat.le_refl _, rfl, by rw [get_none]; rfl⟩
  case round =>
    obtain ⟨j, hj, rfl, rfl⟩ := hrel
    by_cases h0 : 0 < j
    · obtain ⟨i, rfl⟩ : ∃ i, j = i + 1 := ⟨j - 1, by omega⟩
      have hs := get_step v a i b (by omega)
      have hl := getN_lt64 v (a + i) (b - i) (by omega)
      have hb := bitN_lt v (a + i)
      have h2G : 2 * (getN v (a + (i + 1)) (b - (i + 1)) : Int) ≤ 18446744073709551614 := by omega
      have hsum : 2 * (getN v (a + (i + 1)) (b - (i + 1)) : Int) + (bitN v (a + i) : Int) ≤ 18446744073709551615 := by omega
      have HS := Lib.hid hs
      clear hs hl
      go_wp2_with fail
      refine (Bit_any v _ (by omega) (by omega) _).mono ?_
      rintro e w' ⟨rfl, rfl⟩
      rw [show ((a : Int) + (i : Int)).toNat = a + i by omega]
      go_wp2
      go_round
      case rel => exact ⟨i, by omega, rfl, by rw [HS.out]; simp⟩
      case measure => simp [intOf] <;> omega
    · obtain rfl : j = 0 := by omega
      go_wp2
      go_ret
      exact ⟨rfl, rfl⟩
theorem Get_no (v a b : Int) (h : isB a b = false) (w : World) :
    Calls Try.prog 9 #[.int .u64 v, .int .i64 a, .int .i64 b] w fun e w' => e = .returned (.int .u64 0) ∧ w = w' := by
  have HB := Lib.hid h
  clear h
  go_enter Try.func9, Try.ntmps9
  go_wp2_with fail
  refine (Is_no _ _ HB.out _).mono ?_
  rintro e w' ⟨rfl, rfl⟩
  go_wp2
  go_ret
  exact ⟨rfl, rfl⟩
/-- Get, of any word, place and width. -/
theorem Get_any (v a b : Int) (h0 : 0 ≤ v) (w : World) :
    Calls Try.prog 9 #[.int .u64 v, .int .i64 a, .int .i64 b] w fun e w' => e = .returned (.int .u64 (getI v a b)) ∧ w = w' := by
  unfold getI
  cases h : isB a b
  · exact Get_no v a b h w
  · obtain ⟨g0, g1, g2⟩ := isB_out h
    obtain ⟨v, rfl⟩ := Int.eq_ofNat_of_zero_le h0
    obtain ⟨a, rfl⟩ := Int.eq_ofNat_of_zero_le g0
    obtain ⟨b, rfl⟩ := Int.eq_ofNat_of_zero_le (a := b) (by omega)
    exact Get_yes v a b (by omega) (by omega) w

theorem Put_yes (v a b n : Nat) (hv : v < 18446744073709551616) (h1 : 1 ≤ b) (h2 : a + b ≤ 64) (w : World) :
    Calls Try.prog 11 #[.int .u64 (v : Int), .int .i64 (a : Int), .int .i64 (b : Int), .int .u64 (n : Int)] w fun e w' => e = .returned (.int .u64 ((putN v a b n : Nat) : Int)) ∧ w = w' := by
  have HB := Lib.hid (isB_true (a := a) (b := b) (by omega) (by omega) (by omega))
  have hR := putN_lt v a b n hv h2
  have Hin := Lib.hid (fun k h1 h2 => put_bit_in v a b n k h1 h2)
  have Hout := Lib.hid (fun k h => put_bit_out v a b n k h)
  have h64 : putN v a b n / 2 ^ 64 = 0 := Nat.div_eq_of_lt hR
  go_enter Try.func11, Try.ntmps11
  generalize putN v a b n = R at *
  have H64 := Lib.hid h64
  clear h64
  go_wp2_with fail
  refine (Is_yes _ _ HB.out _).mono ?_
  rintro e w' ⟨rfl, rfl⟩
  go_wp2_with fail
  go_loop [9, 10] (fun n k => ∃ j : Nat, j ≤ 64 ∧ k = .int .i64 ((j : Int) - 1) ∧ n = .int .u64 ((R / 2 ^ j : Nat) : Int)) (fun _ k => (intOf k + 1).toNat)
  case atStart => exact ⟨64, Nat.le_refl _, rfl, by rw [H64.out]; rfl⟩
  case round =>
    obtain ⟨j, hj, rfl, rfl⟩ := hrel
    by_cases h0 : 0 < j
    · obtain ⟨i, rfl⟩ : ∃ i, j = i + 1 := ⟨j - 1, by omega⟩
      have hs := shr_step R i
      have hl : R / 2 ^ i ≤ R := Nat.div_le_self _ _
      have hb := bitN_lt R i
      have h2G : 2 * ((R / 2 ^ (i + 1) : Nat) : Int) ≤ 18446744073709551614 := by omega
      have hsum : 2 * ((R / 2 ^ (i + 1) : Nat) : Int) + (bitN R i : Int) ≤ 18446744073709551615 := by omega
      have HS := Lib.hid hs
      clear hs hl
      generalize hD : R / 2 ^ (i + 1) = D at *
      have HD := Lib.hid hD
      clear hD
      by_cases hin : a ≤ i ∧ i < a + b
      · obtain ⟨g1, g2⟩ := hin
        have HI := Lib.hid (Hin.out i g1 g2)
        go_wp2_with fail
        refine (Bit_any v _ (by omega) (by omega) _).mono ?_
        rintro e w' ⟨rfl, rfl⟩
        go_wp2_with fail
        refine (Bit_any n _ (by omega) (by omega) _).mono ?_
        rintro e w' ⟨rfl, rfl⟩
        rw [show ((i : Int) - (a : Int)).toNat = i - a by omega, ← HI.out]
        go_wp2
        go_round
        case rel => exact ⟨i, by omega, rfl, by rw [HS.out]; simp⟩
        case measure => simp [intOf] <;> omega
      · have HO := Lib.hid (Hout.out i (by omega))
        by_cases g1 : i < a
        all_goals
          go_wp2_with fail
          refine (Bit_any v _ (by omega) (by omega) _).mono ?_
          rintro e w' ⟨rfl, rfl⟩
          rw [show ((i : Int)).toNat = i by omega, ← HO.out]
          go_wp2
          go_round
          case rel => exact ⟨i, by omega, rfl, by rw [HS.out]; simp⟩
          case measure => simp [intOf] <;> omega
    · obtain rfl : j = 0 := by omega
      go_wp2
      go_ret
      exact ⟨ret_u64 (by simp), rfl⟩
theorem Put_no (v a b n : Int) (h : isB a b = false) (w : World) :
    Calls Try.prog 11 #[.int .u64 v, .int .i64 a, .int .i64 b, .int .u64 n] w fun e w' => e = .returned (.int .u64 v) ∧ w = w' := by
  have HB := Lib.hid h
  clear h
  go_enter Try.func11, Try.ntmps11
  go_wp2_with fail
  refine (Is_no _ _ HB.out _).mono ?_
  rintro e w' ⟨rfl, rfl⟩
  go_wp2
  go_ret
  exact ⟨rfl, rfl⟩
/-- Put, of any word, place, width and number. -/
theorem Put_any (v a b n : Int) (h0 : 0 ≤ v) (hv : v < 18446744073709551616) (hn : 0 ≤ n) (w : World) :
    Calls Try.prog 11 #[.int .u64 v, .int .i64 a, .int .i64 b, .int .u64 n] w fun e w' => e = .returned (.int .u64 (putI v a b n)) ∧ w = w' := by
  unfold putI
  cases h : isB a b
  · exact Put_no v a b n h w
  · obtain ⟨g0, g1, g2⟩ := isB_out h
    obtain ⟨v, rfl⟩ := Int.eq_ofNat_of_zero_le h0
    obtain ⟨n, rfl⟩ := Int.eq_ofNat_of_zero_le hn
    obtain ⟨a, rfl⟩ := Int.eq_ofNat_of_zero_le g0
    obtain ⟨b, rfl⟩ := Int.eq_ofNat_of_zero_le (a := b) (by omega)
    exact Put_yes v a b n (by omega) (by omega) (by omega) w

theorem High_any (v : Int) (h0 : 0 ≤ v) (hv : v < 18446744073709551616) (w : World) :
    Calls Try.prog 14 #[.int .u64 v] w fun e w' => e = .returned (.int .u64 (v / 4294967296)) ∧ w = w' := by
  go_enter Try.func14, Try.ntmps14
  go_wp2
  go_ret
  exact ⟨rfl, rfl⟩
theorem Low_any (v : Int) (h0 : 0 ≤ v) (hv : v < 18446744073709551616) (w : World) :
    Calls Try.prog 16 #[.int .u64 v] w fun e w' => e = .returned (.int .u64 (v % 4294967296)) ∧ w = w' := by
  go_enter Try.func16, Try.ntmps16
  go_wp2
  go_ret
  exact ⟨rfl, rfl⟩
theorem Pair_any (h l : Int) (h0 : 0 ≤ h) (l0 : 0 ≤ l) (w : World) :
    Calls Try.prog 18 #[.int .u64 h, .int .u64 l] w fun e w' => e = .returned (.int .u64 (h % 4294967296 * 4294967296 + l % 4294967296)) ∧ w = w' := by
  go_enter Try.func18, Try.ntmps18
  go_wp2
  go_ret
  exact ⟨rfl, rfl⟩
end Go.Proofs.Ytlahojinplmojaa.Ref01
