/- The document's answers for layer 5 (package sundialref05), held to the same plain arithmetic. -/
import Derived.Test.YtglidneeccaikaaDrawWalks
namespace Go.Proofs.Ytglidneeccaikaa.DrawRef
open Go.ChangeShapes Go.WideShapes Go.RowKit DM Lay Ints Draw

theorem Height_any (v lv : Int) (h0 : 0 ≤ v) (h1 : v < 18446744073709551616) (w : World) : Calls Try.prog 7 #[.int .u64 v, .int .i64 lv] w fun e w' => e = .returned (.int .i64 (heightI v lv)) ∧ w = w' := by
  have hs := onesI_le h0 h1
  by_cases hl : lv < 1
  · have HE := Lib.hid (height_none (v := v) hl)
    go_enter Try.func7, Try.ntmps7
    go_wp2
    go_ret
    exact ⟨ret_i64 HE.out.symm, rfl⟩
  · go_enter Try.func7, Try.ntmps7
    go_wp2
    go_loopw [0, 5] (fun n h wr => ∃ k : Nat, (k : Int) + 1 ≤ lv ∧ k ≤ onesI v ∧ n = .int .u64 (tailI v k) ∧ h = .int .i64 ((k : Int) + 1) ∧ onesI v = k + onesI (tailI v k) ∧ w = wr)
      (fun _ h _ => 66 - (intOf h).toNat)
    case atStart => exact ⟨0, by omega, Nat.zero_le _, by rw [tail_zero], rfl, by rw [tail_zero, Nat.zero_add], rfl⟩
    case round =>
      obtain ⟨k, hk, hko, rfl, rfl, he, rfl⟩ := hrel
      have HE := Lib.hid he
      clear he
      have hlo := tail_lo h0 k
      have hhi := tail_le h0 k
      by_cases hlt : (k : Int) + 1 < lv
      · by_cases ho : tailI v k % 2 = 1
        · have ho2 := tail_odd h0 HE.out ho
          have hz : k + 1 ≤ onesI v := by omega
          have HO := Lib.hid ho2
          have HT := Lib.hid (tail_succ v k)
          have ht : (tailI v k % 2 == 1) = true := by simpa using ho
          clear ho ho2
          go_wp2
          go_roundw
          case rel => exact ⟨k + 1, by omega, by omega, by rw [HT.out], by go_num, HO.out, trivial⟩
          case measure => simp [intOf]; omega
        · have HO := Lib.hid (tail_even HE.out ho)
          have ht : (tailI v k % 2 == 1) = false := by simpa using ho
          clear ho
          go_wp2
          go_ret
          exact ⟨ret_i64 (by rw [height_some (by omega) (by rw [HO.out]; omega), HO.out]), rfl⟩
      · go_wp2
        go_ret
        exact ⟨ret_i64 (by rw [height_all (by omega) (by omega)]; omega), rfl⟩
theorem ref_height {v lv x : Int} (h : heightI v lv = x) (h0 : 0 ≤ v) (h1 : v < 18446744073709551616) (w : World) : Calls Try.prog 7 #[.int .u64 v, .int .i64 lv] w fun e w' => e = .returned (.int .i64 x) ∧ w = w' := by
  rw [← h]
  exact Height_any v lv h0 h1 w

theorem infoInt : (Try.prog.info? 3).map (fun i => (i.zero, i.size, i.bytes)) = some (some (.int .i64 0), 1, 8) := by kernel_rfl

set_option maxHeartbeats 400000 in
theorem Row_any (A : Option Addr) (l : List Int) (c : Nat) (lv : Int) (w : World) (hR : Row w w.heap.size A (flat (encZ .u64) l)) (hl : l.length ≤ 1000000) (hv : Fits l) : Calls Try.prog 10 #[.slice A l.length c, .int .i64 lv] w (Lists w (l.map (heightI · lv))) := by
  obtain ⟨n, hn⟩ : ∃ n, n = l.length := ⟨_, rfl⟩
  rw [← hn] at hl ⊢
  have HN := Lib.hid hn
  clear hn
  have HR := Lib.hid hR
  clear hR
  have HV := Lib.hid hv
  clear hv
  obtain ⟨i0, hi, hz0, hz1, hz2⟩ := info_parts infoInt
  go_enter Try.func10, Try.ntmps10
  go_wp2
  go_loopw [5, 6] (fun v i wr => ∃ (k : Nat) (A' : Option Addr) (c' : Nat), k ≤ n ∧ i = .int .i64 k ∧ v = .slice A' k c' ∧ wr.ownsRow w.heap.size 3 1 (.slice A' k c') k (flat (encZ .i64) ((l.take k).map (heightI · lv))) ∧ Below w.heap.size w wr)
    (fun _ i _ => n - (intOf i).toNat)
  case atStart => exact ⟨0, none, 0, Nat.zero_le _, rfl, rfl, by rw [List.take_zero]; exact World.ownsRow_nil _ _ _ _, Below.refl _ _⟩
  case round =>
    obtain ⟨k, A', c', hk, rfl, rfl, hown, hb⟩ := hrel
    have HW := Lib.hid hown
    clear hown
    by_cases hlt : k < n
    · have hlt' : k < l.length := by rw [← HN.out]; exact hlt
      obtain ⟨b, o, rfl, hbB, hc⟩ := int_at (HR.out.later hb) hlt'
      have c0 := hc k l[k] (List.getElem?_eq_getElem hlt')
      clear hc
      obtain ⟨v0, v1⟩ := HV.out l[k] (List.getElem_mem hlt')
      have HF := Lib.hid (map_take l lv k hlt')
      have hsz := hb.size
      go_wp2_with fail
      refine (Height_any l[k] lv v0 v1 _).mono ?_
      rintro e w' ⟨rfl, rfl⟩
      generalize heightI l[k] lv = x at HF ⊢
      go_wp2_with (at_builtin; refine wpList_append_to _ w rfl (.tmp 13) (.tmp 20) 27 rfl w.heap.size 3 i0 _ 1 8 Try.underlying27 hi hz0 hz1 hz2 rfl (by decide) _ k _ rfl (HW.out.alloc _) ⟨wr.heap.size, 0, none⟩ 1 1 (encZ .i64 x) rfl (by decide) rfl (cells_new _ _ _) (encZ_one _ _) (by simp only [maxLen]; omega) (by omega) (by simp; omega) (hb.alloc hb.size _) ?_; intro g cap w1 hown1 hg _ hb1)
      have HO := Lib.hid hown1
      clear hown1 c0
      go_wp2
      go_roundw
      case rel => exact ⟨k + 1, some ⟨g, 0, none⟩, cap, by omega, by go_num, rfl, by rw [HF.out, flat_append, flat_one]; exact HO.out, hb1⟩
      case measure => simp [intOf]; omega
    · obtain rfl : k = n := by omega
      go_wp2
      go_ret
      have hr := HW.out
      rw [HN.out, List.take_length] at hr
      exact ⟨A', c', by rw [List.length_map, ← HN.out]; rfl, Row.of_own hr, hb⟩

set_option maxHeartbeats 400000 in
theorem Count_when_le (A : Option Addr) (l : List Int) (c : Nat) (lv : Int) (hlv : lv ≤ 64) (w : World) (hR : Row w w.heap.size A (flat (encZ .u64) l)) (hl : l.length ≤ 1000000) (hv : Fits l) : Calls Try.prog 12 #[.slice A l.length c, .int .i64 lv] w (Lists w (counts l (levelsN lv : Nat) (levelsN lv))) := by
  obtain ⟨n, hn⟩ : ∃ n, n = l.length := ⟨_, rfl⟩
  have hm := levels_cast lv
  have hm64 := levels_le lv
  generalize levelsN lv = m at hm hm64 ⊢
  have hin : ∀ j : Nat, (j : Int) + 1 ≤ lv → j < m ∧ lv = (m : Int) := fun j hj => by omega
  have hout : ∀ j : Nat, j ≤ m → ¬ (j : Int) + 1 ≤ lv → j = m := fun j hj hn => by omega
  have HIN := Lib.hid hin
  have HOUT := Lib.hid hout
  rw [← hn] at hl ⊢
  have HN := Lib.hid hn
  clear hn hin hout hm
  have HR := Lib.hid hR
  clear hR
  have HV := Lib.hid hv
  clear hv
  obtain ⟨i0, hi, hz0, hz1, hz2⟩ := info_parts infoInt
  go_enter Try.func12, Try.ntmps12
  go_wp2
  go_loopw [5, 6] (fun v i wr => ∃ (j : Nat) (A' : Option Addr) (c' : Nat), j ≤ m ∧ i = .int .i64 ((j : Int) + 1) ∧ v = .slice A' j c' ∧ wr.ownsRow w.heap.size 3 1 (.slice A' j c') j (flat (encZ .i64) (counts l m j)) ∧ Below w.heap.size w wr)
    (fun _ i _ => m + 1 - (intOf i).toNat)
  case atStart => exact ⟨0, none, 0, Nat.zero_le _, rfl, rfl, World.ownsRow_nil _ _ _ _, Below.refl _ _⟩
  case round =>
    obtain ⟨j, A', c', hj, rfl, rfl, hown, hb⟩ := hrel
    have HW := Lib.hid hown
    clear hown
    have hsz := hb.size
    by_cases hlt : (j : Int) + 1 ≤ lv
    · obtain ⟨hjm, hLm⟩ := HIN.out j hlt
      have HL := Lib.hid hLm
      clear hLm
      go_wp2
      go_loopw [7, 8] (fun q i wi => ∃ k : Nat, k ≤ n ∧ i = .int .i64 k ∧ q = .int .i64 (drawn (l.take k) m ((j : Int) + 1)) ∧ wr = wi)
        (fun _ i _ => n - (intOf i).toNat)
      case atStart => exact ⟨0, Nat.zero_le _, rfl, rfl, rfl⟩
      case round =>
        obtain ⟨k, hk, rfl, rfl, rfl⟩ := hrel
        have hd : drawn (l.take k) m ((j : Int) + 1) ≤ 1000000 := Nat.le_trans (drawn_le _ _ _) (by rw [List.length_take]; omega)
        by_cases hlk : k < n
        · have hlk' : k < l.length := by rw [← HN.out]; exact hlk
          obtain ⟨b, o, rfl, hbB, hc⟩ := int_at (HR.out.later hb) hlk'
          have c0 := hc k l[k] (List.getElem?_eq_getElem hlk')
          clear hc
          obtain ⟨v0, v1⟩ := HV.out l[k] (List.getElem_mem hlk')
          have hF := drawn_take l m ((j : Int) + 1) k hlk'
          by_cases he : heightI l[k] (m : Int) = (j : Int) + 1
          · rw [if_pos he] at hF
            have HF := Lib.hid hF
            have HE := Lib.hid (show heightI l[k] lv = (j : Int) + 1 by rw [HL.out]; exact he)
            clear hF he
            go_wp2_with fail
            refine (ref_height HE.out v0 v1 _).mono ?_
            rintro e w' ⟨rfl, rfl⟩
            go_wp2
            go_roundw
            case rel => exact ⟨k + 1, by omega, by go_num, by rw [HF.out]; go_num, trivial⟩
            case measure => simp [intOf]; omega
          · rw [if_neg he, Nat.add_zero] at hF
            have HF := Lib.hid hF
            obtain ⟨x, hx⟩ : ∃ x, heightI l[k] lv = x := ⟨_, rfl⟩
            have hne : ¬ x = (j : Int) + 1 := fun e => he (by rw [← HL.out, hx, e])
            have hne2 : (x == (j : Int) + 1) = false := by simpa using hne
            have HE := Lib.hid hx
            clear hF he hx
            go_wp2_with fail
            refine (ref_height HE.out v0 v1 _).mono ?_
            rintro e w' ⟨rfl, rfl⟩
            go_wp2
            go_roundw
            case rel => exact ⟨k + 1, by omega, by go_num, by rw [HF.out]; rfl, trivial⟩
            case measure => simp [intOf]; omega
        · have hkn : k = l.length := by have := HN.out; omega
          have HK := Lib.hid (show drawn (l.take k) m ((j : Int) + 1) = drawn l m ((j : Int) + 1) by rw [hkn, List.take_length])
          have HS := Lib.hid (counts_succ l m j)
          clear hkn
          go_wp2_with (at_builtin; refine wpList_append_to _ w rfl (.tmp 32) (.tmp 34) 27 rfl w.heap.size 3 i0 _ 1 8 Try.underlying27 hi hz0 hz1 hz2 rfl (by decide) _ j _ rfl (HW.out.alloc _) ⟨wr.heap.size, 0, none⟩ 1 1 (encZ .i64 (drawn (l.take k) m ((j : Int) + 1))) rfl (by decide) rfl (cells_new _ _ _) (encZ_one _ _) (by simp only [maxLen]; omega) (by omega) (by simp; omega) (hb.alloc hb.size _) ?_; intro g cap w1 hown1 hg _ hb1)
          have HO := Lib.hid hown1
          clear hown1
          go_wp2
          go_roundw
          case rel => exact ⟨j + 1, some ⟨g, 0, none⟩, cap, by omega, by go_num, rfl, by rw [HS.out, flat_append, flat_one, ← HK.out]; exact HO.out, hb1⟩
          case measure => simp [intOf]; omega
    · obtain rfl : j = m := HOUT.out j hj (by omega)
      go_wp2
      go_ret
      exact ⟨A', c', by rw [counts_length]; rfl, Row.of_own HW.out, hb⟩
set_option maxHeartbeats 400000 in
theorem Count_when_gt (A : Option Addr) (l : List Int) (c : Nat) (lv : Int) (hlv : 64 < lv) (w : World) (hR : Row w w.heap.size A (flat (encZ .u64) l)) (hl : l.length ≤ 1000000) (hv : Fits l) : Calls Try.prog 12 #[.slice A l.length c, .int .i64 lv] w (Lists w (counts l (levelsN lv : Nat) (levelsN lv))) := by
  obtain ⟨n, hn⟩ : ∃ n, n = l.length := ⟨_, rfl⟩
  have hm := levels_cast lv
  have hm64 := levels_le lv
  generalize levelsN lv = m at hm hm64 ⊢
  have hin : ∀ j : Nat, (j : Int) + 1 ≤ 64 → j < m ∧ 64 = (m : Int) := fun j hj => by omega
  have hout : ∀ j : Nat, j ≤ m → ¬ (j : Int) + 1 ≤ 64 → j = m := fun j hj hn => by omega
  have HIN := Lib.hid hin
  have HOUT := Lib.hid hout
  rw [← hn] at hl ⊢
  have HN := Lib.hid hn
  clear hn hin hout hm
  have HR := Lib.hid hR
  clear hR
  have HV := Lib.hid hv
  clear hv
  obtain ⟨i0, hi, hz0, hz1, hz2⟩ := info_parts infoInt
  go_enter Try.func12, Try.ntmps12
  go_wp2
  go_loopw [5, 6] (fun v i wr => ∃ (j : Nat) (A' : Option Addr) (c' : Nat), j ≤ m ∧ i = .int .i64 ((j : Int) + 1) ∧ v = .slice A' j c' ∧ wr.ownsRow w.heap.size 3 1 (.slice A' j c') j (flat (encZ .i64) (counts l m j)) ∧ Below w.heap.size w wr)
    (fun _ i _ => m + 1 - (intOf i).toNat)
  case atStart => exact ⟨0, none, 0, Nat.zero_le _, rfl, rfl, World.ownsRow_nil _ _ _ _, Below.refl _ _⟩
  case round =>
    obtain ⟨j, A', c', hj, rfl, rfl, hown, hb⟩ := hrel
    have HW := Lib.hid hown
    clear hown
    have hsz := hb.size
    by_cases hlt : (j : Int) + 1 ≤ 64
    · obtain ⟨hjm, hLm⟩ := HIN.out j hlt
      have HL := Lib.hid hLm
      clear hLm
      go_wp2
      go_loopw [7, 8] (fun q i wi => ∃ k : Nat, k ≤ n ∧ i = .int .i64 k ∧ q = .int .i64 (drawn (l.take k) m ((j : Int) + 1)) ∧ wr = wi)
        (fun _ i _ => n - (intOf i).toNat)
      case atStart => exact ⟨0, Nat.zero_le _, rfl, rfl, rfl⟩
      case round =>
        obtain ⟨k, hk, rfl, rfl, rfl⟩ := hrel
        have hd : drawn (l.take k) m ((j : Int) + 1) ≤ 1000000 := Nat.le_trans (drawn_le _ _ _) (by rw [List.length_take]; omega)
        by_cases hlk : k < n
        · have hlk' : k < l.length := by rw [← HN.out]; exact hlk
          obtain ⟨b, o, rfl, hbB, hc⟩ := int_at (HR.out.later hb) hlk'
          have c0 := hc k l[k] (List.getElem?_eq_getElem hlk')
          clear hc
          obtain ⟨v0, v1⟩ := HV.out l[k] (List.getElem_mem hlk')
          have hF := drawn_take l m ((j : Int) + 1) k hlk'
          by_cases he : heightI l[k] (m : Int) = (j : Int) + 1
          · rw [if_pos he] at hF
            have HF := Lib.hid hF
            have HE := Lib.hid (show heightI l[k] 64 = (j : Int) + 1 by rw [HL.out]; exact he)
            clear hF he
            go_wp2_with fail
            refine (ref_height HE.out v0 v1 _).mono ?_
            rintro e w' ⟨rfl, rfl⟩
            go_wp2
            go_roundw
            case rel => exact ⟨k + 1, by omega, by go_num, by rw [HF.out]; go_num, trivial⟩
            case measure => simp [intOf]; omega
          · rw [if_neg he, Nat.add_zero] at hF
            have HF := Lib.hid hF
            obtain ⟨x, hx⟩ : ∃ x, heightI l[k] 64 = x := ⟨_, rfl⟩
            have hne : ¬ x = (j : Int) + 1 := fun e => he (by rw [← HL.out, hx, e])
            have hne2 : (x == (j : Int) + 1) = false := by simpa using hne
            have HE := Lib.hid hx
            clear hF he hx
            go_wp2_with fail
            refine (ref_height HE.out v0 v1 _).mono ?_
            rintro e w' ⟨rfl, rfl⟩
            go_wp2
            go_roundw
            case rel => exact ⟨k + 1, by omega, by go_num, by rw [HF.out]; rfl, trivial⟩
            case measure => simp [intOf]; omega
        · have hkn : k = l.length := by have := HN.out; omega
          have HK := Lib.hid (show drawn (l.take k) m ((j : Int) + 1) = drawn l m ((j : Int) + 1) by rw [hkn, List.take_length])
          have HS := Lib.hid (counts_succ l m j)
          clear hkn
          go_wp2_with (at_builtin; refine wpList_append_to _ w rfl (.tmp 32) (.tmp 34) 27 rfl w.heap.size 3 i0 _ 1 8 Try.underlying27 hi hz0 hz1 hz2 rfl (by decide) _ j _ rfl (HW.out.alloc _) ⟨wr.heap.size, 0, none⟩ 1 1 (encZ .i64 (drawn (l.take k) m ((j : Int) + 1))) rfl (by decide) rfl (cells_new _ _ _) (encZ_one _ _) (by simp only [maxLen]; omega) (by omega) (by simp; omega) (hb.alloc hb.size _) ?_; intro g cap w1 hown1 hg _ hb1)
          have HO := Lib.hid hown1
          clear hown1
          go_wp2
          go_roundw
          case rel => exact ⟨j + 1, some ⟨g, 0, none⟩, cap, by omega, by go_num, rfl, by rw [HS.out, flat_append, flat_one, ← HK.out]; exact HO.out, hb1⟩
          case measure => simp [intOf]; omega
    · obtain rfl : j = m := HOUT.out j hj (by omega)
      go_wp2
      go_ret
      exact ⟨A', c', by rw [counts_length]; rfl, Row.of_own HW.out, hb⟩
theorem Count_any (A : Option Addr) (l : List Int) (c : Nat) (lv : Int) (w : World) (hR : Row w w.heap.size A (flat (encZ .u64) l)) (hl : l.length ≤ 1000000) (hv : Fits l) : Calls Try.prog 12 #[.slice A l.length c, .int .i64 lv] w (Lists w (counts l (levelsN lv : Nat) (levelsN lv))) := by
  by_cases h : lv ≤ 64
  · exact Count_when_le A l c lv h w hR hl hv
  · exact Count_when_gt A l c lv (by omega) w hR hl hv

theorem same_upto (l1 l2 : List Int) (h : l1.length = l2.length) (n : Nat) (hn : l1.length ≤ n) (hs : ∀ j, j < n → l1[j]? = l2[j]?) : l1 = l2 := by
  apply List.ext_getElem?
  intro j
  by_cases hj : j < n
  · exact hs j hj
  · rw [List.getElem?_eq_none (by omega), List.getElem?_eq_none (by omega)]

set_option maxHeartbeats 400000 in
theorem Same_any (A1 A2 : Option Addr) (l1 l2 : List Int) (c1 c2 : Nat) (w : World) (hR1 : Row w w.heap.size A1 (flat (encZ .i64) l1)) (hR2 : Row w w.heap.size A2 (flat (encZ .i64) l2)) (hl1 : l1.length ≤ maxLen) (hl2 : l2.length ≤ maxLen) :
    Calls Try.prog 8 #[.slice A1 l1.length c1, .slice A2 l2.length c2] w fun e w' => e = .returned (.bool (decide (l1 = l2))) ∧ Below w.heap.size w w' := by
  obtain ⟨n, hn⟩ : ∃ n, n = l1.length := ⟨_, rfl⟩
  obtain ⟨m, hm⟩ : ∃ m, m = l2.length := ⟨_, rfl⟩
  unfold maxLen at hl1 hl2
  rw [← hn] at hl1 ⊢
  rw [← hm] at hl2 ⊢
  have HN := Lib.hid hn
  have HM := Lib.hid hm
  clear hn hm
  have HR1 := Lib.hid hR1
  have HR2 := Lib.hid hR2
  clear hR1 hR2
  by_cases hnm : n = m
  · subst hnm
    go_enter Try.func8, Try.ntmps8
    go_wp2
    go_loopw [5] (fun i wr => ∃ k : Nat, k ≤ n ∧ i = .int .i64 k ∧ (∀ j, j < k → l1[j]? = l2[j]?) ∧ Below w.heap.size w wr)
      (fun i _ => n - (intOf i).toNat)
    case atStart => exact ⟨0, Nat.zero_le _, rfl, fun j h => by omega, Below.refl _ _⟩
    case round =>
      obtain ⟨k, hk, rfl, hs, hb⟩ := hrel
      have HS := Lib.hid hs
      clear hs
      by_cases hlt : k < n
      · have hk1 : k < l1.length := by rw [← HN.out]; exact hlt
        have hk2 : k < l2.length := by rw [← HM.out]; exact hlt
        obtain ⟨b1, o1, rfl, _, hc1⟩ := int_at (HR1.out.later hb) hk1
        obtain ⟨b2, o2, rfl, _, hc2⟩ := int_at (HR2.out.later hb) hk2
        obtain ⟨x1, hx1⟩ : ∃ x, l1[k]? = some x := ⟨_, List.getElem?_eq_getElem hk1⟩
        obtain ⟨x2, hx2⟩ : ∃ x, l2[k]? = some x := ⟨_, List.getElem?_eq_getElem hk2⟩
        have p0 := hc1 k x1 hx1
        have q0 := hc2 k x2 hx2
        have HX1 := Lib.hid hx1
        have HX2 := Lib.hid hx2
        have C0 := fun p : After wr => p.cell p0
        have D0 := fun p : After wr => p.cell q0
        clear hc1 hc2 p0 q0 hx1 hx2
        by_cases he : x1 = x2
        · subst he
          go_wp2
          refine wp_region_after mixed (by kernel_rfl) ?_
          repeat (first | go_big_quiet_step (fail) | quiet_step (fail))
          refine wpQuiet_nil ?_
          intro _ hw'
          obtain ⟨pq, hw''⟩ := hw'
          subst hw''
          go_wp2
          go_roundw
          case rel =>
            refine ⟨k + 1, by omega, by go_num, fun j hj => ?_, hb.trans (pq.ok.mono hb.size)⟩
            by_cases e : j = k
            · subst e
              rw [HX1.out, HX2.out]
            · exact HS.out j (by omega)
          case measure => simp [intOf]; omega
        · have he2 : (x1 == x2) = false := by simpa using he
          have he3 : (x1 != x2) = true := by simpa using he
          go_wp2
          refine wp_region_after mixed (by kernel_rfl) ?_
          repeat (first | go_big_quiet_step (fail) | quiet_step (fail))
          refine wpQuiet_nil ?_
          intro _ hw'
          obtain ⟨pq, hw''⟩ := hw'
          subst hw''
          go_wp2
          go_ret
          refine ⟨ret_bool (decide_eq_false fun e => he ?_).symm, hb.trans (pq.ok.mono hb.size)⟩
          have h1 := HX1.out
          rw [e, HX2.out] at h1
          simpa using h1.symm
      · go_wp2
        go_ret
        exact ⟨ret_bool (decide_eq_true (same_upto l1 l2 (HN.out.symm.trans HM.out) n (by rw [← HN.out]; exact Nat.le_refl _) fun j hj => HS.out j (by omega))).symm, hb⟩
  · go_enter Try.func8, Try.ntmps8
    go_wp2
    go_ret
    exact ⟨ret_bool (decide_eq_false fun e => hnm (by rw [HN.out, HM.out, e])).symm, Below.refl _ _⟩
theorem Same_yes {A1 A2 : Option Addr} {l : List Int} {n1 n2 c1 c2 : Nat} {w : World} (h1 : n1 = l.length) (h2 : n2 = l.length) (hR1 : Row w w.heap.size A1 (flat (encZ .i64) l)) (hR2 : Row w w.heap.size A2 (flat (encZ .i64) l)) (hl : l.length ≤ maxLen) :
    Calls Try.prog 8 #[.slice A1 n1 c1, .slice A2 n2 c2] w fun e w' => e = .returned (.bool true) ∧ Below w.heap.size w w' := by
  subst h1
  subst h2
  have h := Same_any A1 A2 l l c1 c2 w hR1 hR2 hl hl
  rw [decide_eq_true rfl] at h
  exact h
end Go.Proofs.Ytglidneeccaikaa.DrawRef
