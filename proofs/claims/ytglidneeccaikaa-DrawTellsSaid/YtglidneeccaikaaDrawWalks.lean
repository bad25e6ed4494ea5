/- The functions of package draw (layer 5), each held to plain arithmetic: what each call returns, at every number, list and count of levels; what lay in memory ahead stays as it was. -/
import Derived.Test.YtglidneeccaikaaRows
import Derived.Test.YtglidneeccaikaaInts
import Derived.Test.YtglidneeccaikaaDrawMath
import Derived.WalkKit
import Derived.ProofKit
import Derived.Lib.Hide
import Derived.Lib.MinMax
import Derived.Deep.RegionHeld3
namespace Go.Proofs.Ytglidneeccaikaa.Draw
open Go.ChangeShapes Go.WideShapes Go.RowKit DM Lay Ints

theorem ret_i64 {a b : Int} (h : a = b) : Ending.returned (.int .i64 a) = .returned (.int .i64 b) := by rw [h]
theorem ret_bool {a b : Bool} (h : a = b) : Ending.returned (.bool a) = .returned (.bool b) := by rw [h]
theorem mixed : Try.prog.follows .mixedOrders = true := by kernel_rfl

theorem and_one (x : Int) (h0 : 0 ≤ x) (h1 : x < 18446744073709551616) : bits .and .u64 x 1 = x % 2 := by
  obtain ⟨n, rfl⟩ := Int.eq_ofNat_of_zero_le h0
  have h := u64_and_nat n 1 (by omega) (by decide)
  rw [Nat.and_one_is_mod] at h
  simpa using h

theorem ones_any (v : Int) (h0 : 0 ≤ v) (h1 : v < 18446744073709551616) (w : World) : Calls Try.prog 13 #[.int .u64 v] w fun e w' => e = .returned (.int .i64 (onesI v)) ∧ w = w' := by
  go_enter Try.func13, Try.ntmps13
  go_wp2
  go_loopw [4] (fun i wr => ∃ k : Nat, k ≤ 64 ∧ i = .int .i64 k ∧ onesI v = k + onesI (tailI v k) ∧ w = wr)
    (fun i _ => 64 - (intOf i).toNat)
  case atStart => exact ⟨0, Nat.zero_le _, rfl, by rw [tail_zero, Nat.zero_add], rfl⟩
  case round =>
    obtain ⟨k, hk, rfl, he, rfl⟩ := hrel
    have HE := Lib.hid he
    clear he
    have ha : bits .and .u64 (v / 2 ^ k) 1 = tailI v k % 2 := and_one (tailI v k) (tail_lo h0 k) (by have := tail_le h0 k; omega)
    have hl := tail_lo h0 k
    by_cases hlt : k < 64
    · by_cases ho : tailI v k % 2 = 1
      · have HO := Lib.hid (tail_odd h0 HE.out ho)
        have ht : (bits .and .u64 (v / 2 ^ k) 1 == 0) = false := by rw [ha, ho]; rfl
        clear ha hl ho
        go_wp2
        go_roundw
        case rel => exact ⟨k + 1, by omega, by go_num, HO.out, trivial⟩
        case measure => simp [intOf]; omega
      · have HO := Lib.hid (tail_even HE.out ho)
        have ht : (bits .and .u64 (v / 2 ^ k) 1 == 0) = true := by rw [ha, show tailI v k % 2 = 0 by omega]; rfl
        clear ha hl ho
        go_wp2
        go_ret
        exact ⟨ret_i64 (by rw [HO.out]), rfl⟩
    · obtain rfl : k = 64 := by omega
      have HO := Lib.hid (tail_done h0 h1 HE.out)
      clear ha hl
      go_wp2
      go_ret
      exact ⟨ret_i64 (by rw [HO.out]; rfl), rfl⟩
theorem Height_any (v lv : Int) (h0 : 0 ≤ v) (h1 : v < 18446744073709551616) (w : World) : Calls Try.prog 6 #[.int .u64 v, .int .i64 lv] w fun e w' => e = .returned (.int .i64 (heightI v lv)) ∧ w = w' := by
  have hs := onesI_le h0 h1
  by_cases hl : lv < 1
  · have HE := Lib.hid (height_none (v := v) hl)
    go_enter Try.func6, Try.ntmps6
    go_wp2
    go_ret
    exact ⟨ret_i64 HE.out.symm, rfl⟩
  · by_cases hh : lv ≤ (onesI v : Int) + 1
    · have HE := Lib.hid (height_all hl hh)
      go_enter Try.func6, Try.ntmps6
      go_wp2_with fail
      refine (ones_any v h0 h1 _).mono ?_
      rintro e w' ⟨rfl, rfl⟩
      go_wp2
      all_goals go_ret
      all_goals exact ⟨ret_i64 (by rw [HE.out] <;> omega), rfl⟩
    · have HE := Lib.hid (height_some hl hh)
      go_enter Try.func6, Try.ntmps6
      go_wp2_with fail
      refine (ones_any v h0 h1 _).mono ?_
      rintro e w' ⟨rfl, rfl⟩
      go_wp2
      all_goals go_ret
      all_goals exact ⟨ret_i64 (by rw [HE.out] <;> omega), rfl⟩
theorem Height_is {v lv x : Int} (h : heightI v lv = x) (h0 : 0 ≤ v) (h1 : v < 18446744073709551616) (w : World) : Calls Try.prog 6 #[.int .u64 v, .int .i64 lv] w fun e w' => e = .returned (.int .i64 x) ∧ w = w' := by
  rw [← h]
  exact Height_any v lv h0 h1 w

/-- A new list of integers: its value, what it holds, and that nothing else has turned. -/
def Lists (w : World) (l : List Int) (e : Ending) (w' : World) : Prop := ∃ (A : Option Addr) (c : Nat), e = .returned (.slice A l.length c) ∧ Row w' w'.heap.size A (flat (encZ .i64) l) ∧ Below w.heap.size w w'
/-- The numbers of a list fit. -/
def Fits (l : List Int) : Prop := ∀ v ∈ l, 0 ≤ v ∧ v < 18446744073709551616

theorem infoInt : (Try.prog.info? 3).map (fun i => (i.zero, i.size, i.bytes)) = some (some (.int .i64 0), 1, 8) := by kernel_rfl
set_option maxHeartbeats 400000 in
theorem Row_any (A : Option Addr) (l : List Int) (c : Nat) (lv : Int) (w : World) (hR : Row w w.heap.size A (flat (encZ .u64) l)) (hl : l.length ≤ 1000000) (hv : Fits l) : Calls Try.prog 9 #[.slice A l.length c, .int .i64 lv] w (Lists w (l.map (heightI · lv))) := by
  obtain ⟨n, hn⟩ : ∃ n, n = l.length := ⟨_, rfl⟩
  rw [← hn] at hl ⊢
  have HN := Lib.hid hn
  clear hn
  have HR := Lib.hid hR
  clear hR
  have HV := Lib.hid hv
  clear hv
  obtain ⟨i0, hi, hz0, hz1, hz2⟩ := info_parts infoInt
  go_enter Try.func9, Try.ntmps9
  go_wp2_with (first
    | (at_make; refine wpList_make_full _ rfl (.tmp 9) (.tmp 9) 27 rfl w.heap.size 3 i0 _ 1 Try.underlying27 hi hz0 hz1 _ _ _ _ n rfl rfl rfl rfl (by rw [hz2]; omega) (by simp only [maxLen]; omega) (Nat.le_refl _) ?_; intro w1 hown hg1; have hb1 : Below w.heap.size w w1 := (Below.refl _ _).grown hg1 (Nat.le_refl _) (fun k hk => by cases hk); rw [made_ints] at hown; have HO := Lib.hid hown; clear hown hg1))
  have hlt1 : w.heap.size < w1.heap.size := (HO.out.lt w.heap.size rfl).2
  go_loopw [13] (fun i wr => ∃ k : Nat, k ≤ n ∧ i = .int .i64 k ∧ wr.ownsRow w.heap.size 3 1 (.slice (some ⟨w.heap.size, 0, none⟩) n n) n (flat (encZ .i64) (filled l lv k)) ∧ Below w.heap.size w wr)
    (fun i _ => n - (intOf i).toNat)
  case atStart => exact ⟨0, Nat.zero_le _, rfl, by rw [filled_zero, ← HN.out]; exact HO.out, hb1⟩
  case round =>
    obtain ⟨k, hk, rfl, hown, hb⟩ := hrel
    have HW := Lib.hid hown
    clear hown
    by_cases hlt : k < n
    · have hlt' : k < l.length := by rw [← HN.out]; exact hlt
      obtain ⟨b, o, rfl, hbB, hc⟩ := int_at (HR.out.later hb) hlt'
      have c0 := hc k l[k] (List.getElem?_eq_getElem hlt')
      clear hc
      obtain ⟨v0, v1⟩ := HV.out l[k] (List.getElem_mem hlt')
      have hfl : (filled l lv k).length = n := by rw [filled_length l lv k (by omega), HN.out]
      obtain ⟨x, hx⟩ : ∃ x, (filled l lv k)[k]? = some x := ⟨_, List.getElem?_eq_getElem (by omega)⟩
      obtain ⟨d0, d1⟩ := own_int_at HW.out hfl.symm hx
      have HS := Lib.hid (own_int_set HW.out k (heightI l[k] lv))
      have HF := Lib.hid (filled_step l lv k hlt')
      clear hfl hx
      go_wp2_with fail
      refine (Height_any l[k] lv v0 v1 _).mono ?_
      rintro e w' ⟨rfl, rfl⟩
      go_wp2
      go_roundw
      case rel => exact ⟨k + 1, by omega, by go_num, by rw [← HF.out]; exact HS.out, hb.setCell (Nat.le_refl _) _⟩
      case measure => simp [intOf]; omega
    · obtain rfl : k = n := by omega
      go_wp2
      go_ret
      have hr := Row.of_own HW.out
      rw [HN.out, filled_all] at hr
      exact ⟨_, _, by rw [List.length_map, ← HN.out]; rfl, hr, hb⟩

theorem infoInt2 : (Try.prog.info? 3).map (fun i => (i.zero, i.size, i.bytes)) = some (some (.int .i64 0), 1, 8) := by kernel_rfl
set_option maxHeartbeats 400000 in
theorem Count_any (A : Option Addr) (l : List Int) (c : Nat) (lv : Int) (w : World) (hR : Row w w.heap.size A (flat (encZ .u64) l)) (hl : l.length ≤ 1000000) (hv : Fits l) : Calls Try.prog 11 #[.slice A l.length c, .int .i64 lv] w (Lists w (counts l (levelsN lv : Nat) (levelsN lv))) := by
  obtain ⟨n, hn⟩ : ∃ n, n = l.length := ⟨_, rfl⟩
  have hm := levels_cast lv
  have hm64 := levels_le lv
  generalize levelsN lv = m at hm hm64 ⊢
  rw [← hn] at hl ⊢
  have HN := Lib.hid hn
  clear hn
  have HR := Lib.hid hR
  clear hR
  have HV := Lib.hid hv
  clear hv
  obtain ⟨i0, hi, hz0, hz1, hz2⟩ := info_parts infoInt2
  go_enter Try.func11, Try.ntmps11
  go_wp2_with (first
    | (at_make; refine wpList_make_full _ rfl (.tmp 11) (.tmp 11) 27 rfl w.heap.size 3 i0 _ 1 Try.underlying27 hi hz0 hz1 _ _ _ _ m rfl rfl rfl rfl (by rw [hz2]; omega) (by simp only [maxLen]; omega) (Nat.le_refl _) ?_; intro w1 hown hg1; have hb1 : Below w.heap.size w w1 := (Below.refl _ _).grown hg1 (Nat.le_refl _) (fun k hk => by cases hk); rw [made_ints] at hown; have HO := Lib.hid hown; clear hown hg1))
  clear hm
  go_loopw [15] (fun i wr => ∃ k : Nat, k ≤ n ∧ i = .int .i64 k ∧ wr.ownsRow w.heap.size 3 1 (.slice (some ⟨w.heap.size, 0, none⟩) m m) m (flat (encZ .i64) (counts (l.take k) m m)) ∧ Below w.heap.size w wr)
    (fun i _ => n - (intOf i).toNat)
  case atStart => exact ⟨0, Nat.zero_le _, rfl, by rw [List.take_zero, counts_nil]; exact HO.out, hb1⟩
  case round =>
    obtain ⟨k, hk, rfl, hown, hb⟩ := hrel
    have HW := Lib.hid hown
    clear hown
    by_cases hlt : k < n
    · have hlt' : k < l.length := by rw [← HN.out]; exact hlt
      obtain ⟨b, o, rfl, hbB, hc⟩ := int_at (HR.out.later hb) hlt'
      have c0 := hc k l[k] (List.getElem?_eq_getElem hlt')
      clear hc
      obtain ⟨v0, v1⟩ := HV.out l[k] (List.getElem_mem hlt')
      by_cases h0 : m = 0
      · have HH := Lib.hid (height_none (v := l[k]) (lv := (m : Int)) (by omega))
        have HZ := Lib.hid h0
        clear h0
        go_wp2_with fail
        refine (Height_is HH.out v0 v1 _).mono ?_
        rintro e w' ⟨rfl, rfl⟩
        go_wp2
        go_roundw
        case rel => exact ⟨k + 1, by omega, by go_num, by rw [counts_zero (l.take (k + 1)) (l.take k) _ _ HZ.out]; exact HW.out, hb⟩
        case measure => simp [intOf]; omega
      · have hp := height_pos (v := l[k]) (lv := (m : Int)) (by omega)
        have hq := height_hi (v := l[k]) (lv := (m : Int)) (by omega)
        obtain ⟨t, ht⟩ : ∃ t : Nat, heightI l[k] (m : Int) = (t : Int) + 1 := ⟨(heightI l[k] (m : Int) - 1).toNat, by omega⟩
        have htm : t < m := by omega
        have HH := Lib.hid ht
        have hx := counts_get (l.take k) m m htm
        have hd : drawn (l.take k) m ((t : Int) + 1) ≤ 1000000 := Nat.le_trans (drawn_le _ _ _) (by rw [List.length_take]; omega)
        have HS := Lib.hid (own_int_set HW.out t ((drawn (l.take k) m ((t : Int) + 1) : Int) + 1))
        have HF := Lib.hid (counts_step l m m k hlt' t htm ht)
        obtain ⟨d0, d1⟩ := own_int_at HW.out (counts_length _ _ _).symm hx
        clear hp hq ht hx
        generalize drawn (l.take k) m ((t : Int) + 1) = q at hd HS HF d0
        go_wp2_with fail
        refine (Height_is HH.out v0 v1 _).mono ?_
        rintro e w' ⟨rfl, rfl⟩
        go_wp2
        go_roundw
        case rel => exact ⟨k + 1, by omega, by go_num, by rw [HF.out]; exact HS.out, hb.setCell (Nat.le_refl _) _⟩
        case measure => simp [intOf]; omega
    · obtain rfl : k = n := by omega
      go_wp2
      go_ret
      have hr := Row.of_own HW.out
      rw [HN.out, List.take_length] at hr
      exact ⟨_, _, by rw [counts_length]; rfl, hr, hb⟩
end Go.Proofs.Ytglidneeccaikaa.Draw
