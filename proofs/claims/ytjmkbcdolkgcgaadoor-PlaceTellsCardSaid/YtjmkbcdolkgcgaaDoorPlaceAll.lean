/- The document's list of all spots (package sundialref09): a new list; what lay in memory ahead stays as it was. -/
import Derived.Test.YtjmkbcdolkgcgaaDoorPlanRef
import Derived.Test.YtjmkbcdolkgcgaaDoorPlaceMath
import Derived.Test.YtjmkbcdolkgcgaaDoorThree
namespace Go.Proofs.YtjmkbcdolkgcgaaDoor.PlaceAll
open Go.ChangeShapes Go.WideShapes Go.RowKit PM Lay Plan Go.Proofs.YtjmkbcdolkgcgaaDoor.Open
set_option linter.unusedVariables false

theorem infoSpot : (Tryd.prog.info? 26).map (fun i => (i.zero, i.size, i.bytes)) = some (some (.agg #[.int .i64 0, .int .i64 0, .int .i64 0]), 3, 24) := by kernel_rfl
theorem flat_snoc (l : List Sp) (x : Sp) : flat (enc3 .i64 .i64 .i64) l ++ enc3 .i64 .i64 .i64 x = flat (enc3 .i64 .i64 .i64) (l ++ [x]) := by rw [flat_append, flat_one]
theorem past_grow {w W : World} {o o' : Obj} (h : Below (w.heap.size + 1) (w.alloc o) W) : Below (w.heap.size + 1) (w.alloc o) (W.alloc o') := h.alloc (size_past h) _
/-- A new list of spots: its value, what it holds, and that nothing else has turned. -/
def Spots (w : World) (l : List Sp) (e : Ending) (w' : World) : Prop := ∃ (A : Option Addr) (c : Nat), e = .returned (.slice A l.length c) ∧ Row w' w'.heap.size A (flat (enc3 .i64 .i64 .i64) l) ∧ Below w.heap.size w w'

theorem slot_step (t h i : Nat) : toL t h (i + 1) = (toL t h i ++ sixQ ((i : Int) + 1) 6) ++ lvL 15 ((i : Int) + 1) h := by
  rw [to_succ, sixQ_six, List.append_assoc]
  rfl

set_option maxHeartbeats 4000000 in
set_option maxRecDepth 100000 in
theorem All_yes {T S L G : Int} (hr : rightB T S L G = true) (t s h : Nat) (hT : T = (t : Int)) (hS : S = (s : Int)) (hL : L = (h : Int)) (w : World) : Calls Tryd.prog 21 #[.agg #[.int .i64 T, .int .i64 S, .int .i64 L, .int .u64 G]] w (Spots w (spL t s h)) := by
  obtain ⟨i0, hi, hz0, hz1, hz2⟩ := info_parts infoSpot
  have HR := Lib.hid hr
  obtain ⟨r1, r2, r3, r4, r5, r6, _⟩ := right_is hr
  have ht8 : t ≤ 8 := by omega
  have hs64 : s ≤ 64 := by omega
  have hh8 : h ≤ 8 := by omega
  have HT := Lib.hid hT
  have HS := Lib.hid hS
  have HL := Lib.hid hL
  clear hr hT hS hL r1 r2 r3 r4 r5 r6
  go_enter Tryd.func21, Tryd.ntmps21
  go_wp2_with fail
  refine (PlanRef.Right_yes HR.out _).mono ?_
  rintro e w' ⟨rfl, hb⟩
  have HP0 := Lib.hid (show Below (w.heap.size + 1) (w.alloc (.cells #[.int .i64 T, .int .i64 S, .int .i64 L, .int .u64 G] 24)) w' from by simpa using hb)
  go_wp2
  have O1 := Lib.hid (own_made_k w' [.int .i64 1, .int .i64 0, .int .i64 0, .int .i64 2, .int .i64 0, .int .i64 0, .int .i64 3, .int .i64 0, .int .i64 0, .int .i64 4, .int .i64 0, .int .i64 0] (n := 4) (k := 3) (e := 26) (base := w.heap.size + 1) (size_past HP0.out) rfl (by decide))
  have P1 := Lib.hid (show Below (w.heap.size + 1) (w.alloc (.cells #[.int .i64 T, .int .i64 S, .int .i64 L, .int .u64 G] 24)) (w'.alloc (.cells #[.int .i64 1, .int .i64 0, .int .i64 0, .int .i64 2, .int .i64 0, .int .i64 0, .int .i64 3, .int .i64 0, .int .i64 0, .int .i64 4, .int .i64 0, .int .i64 0] 26)) from past_grow HP0.out)
  clear hb
  go_loopw [3, 4] (fun lv kv wr => ∃ (q g cap n : Nat), q ≤ 3 ∧ n ≤ 4 + 8 * q ∧ kv = .int .i64 (5 + (q : Int)) ∧ lv = .slice (some ⟨g, 0, none⟩) n cap ∧ wr.ownsRow (w.heap.size + 1) 26 3 (.slice (some ⟨g, 0, none⟩) n cap) n (flat (enc3 .i64 .i64 .i64) (rowsL t q)) ∧ Below (w.heap.size + 1) (w.alloc (.cells #[.int .i64 T, .int .i64 S, .int .i64 L, .int .u64 G] 24)) wr)
    (fun _ kv _ => 8 - (intOf kv).toNat)
  case atStart => exact ⟨0, w'.heap.size, 4, 4, by omega, by omega, rfl, rfl, by rw [rows_zero]; exact O1.out, P1.out⟩
  case round =>
    obtain ⟨q, g, cap, n, hq, hn, rfl, rfl, ho, hp⟩ := hrel
    have HO := Lib.hid ho
    have HP := Lib.hid hp
    clear O1 P1
    by_cases hlt : q < 3
    · have h57 : 5 + (q : Int) ≤ 7 := by omega
      obtain ⟨c_0, c_1, c_2, c_3⟩ := box4_later hp
      clear ho hp
      go_wp2
      clear c_0 c_1 c_2 c_3
      go_loopw [3, 5] (fun lv kv wr => ∃ (j g cap n : Nat), j ≤ t ∧ n ≤ 4 + 8 * q + j ∧ kv = .int .i64 (j : Int) ∧ lv = .slice (some ⟨g, 0, none⟩) n cap ∧ wr.ownsRow (w.heap.size + 1) 26 3 (.slice (some ⟨g, 0, none⟩) n cap) n (flat (enc3 .i64 .i64 .i64) (rowsL t q ++ thL (5 + (q : Int)) j)) ∧ Below (w.heap.size + 1) (w.alloc (.cells #[.int .i64 T, .int .i64 S, .int .i64 L, .int .u64 G] 24)) wr)
        (fun _ kv _ => t - (intOf kv).toNat)
      case atStart => exact ⟨0, g, cap, n, Nat.zero_le _, by omega, rfl, rfl, by rw [th_zero, List.append_nil]; exact HO.out, HP.out⟩
      case round =>
        clear HO HP hn
        obtain ⟨j, g, cap, n, hj, hn, rfl, rfl, ho, hp⟩ := hrel
        have HO := Lib.hid ho
        have HP := Lib.hid hp
        obtain ⟨c_0, c_1, c_2, c_3⟩ := box4_later hp
        clear ho hp
        by_cases hlj : (j : Int) < T
        · have HV := Lib.hid (show j < t by have := HT.out; omega)
          have HH := Lib.hid (th_succ (5 + (q : Int)) j)
          go_wp2_with (at_builtin; refine wpList_append_to _ (w.alloc (.cells #[.int .i64 T, .int .i64 S, .int .i64 L, .int .u64 G] 24)) rfl (.tmp 28) (.tmp 32) 41 rfl (w.heap.size + 1) 26 i0 _ 3 24 Tryd.underlying41 hi hz0 hz1 hz2 rfl (by decide) _ n _ rfl (HO.out.alloc _) ⟨wr.heap.size, 0, none⟩ 1 1 (enc3 .i64 .i64 .i64 (5 + (q : Int), (j : Int), 0)) rfl (by decide) rfl (cells_new _ _ _) (enc3_one _ _ _ _) (by simp only [maxLen]; omega) (by omega) (by have := size_past HP.out; simp; omega) (past_grow HP.out) ?_; intro g2 cap2 w6 ho2 hg2 hlt2 hb2)
          have HO6 := Lib.hid ho2
          have HP6 := Lib.hid hb2
          clear ho2 hb2
          go_roundw
          case rel => exact ⟨j + 1, g2, cap2, n + 1, HV.out, by omega, by go_num, rfl, by have h6 := HO6.out; rw [flat_snoc, List.append_assoc, ← HH.out] at h6; exact h6, HP6.out⟩
          case measure => have := HV.out; simp [intOf]; omega
        · obtain rfl : t = j := by have := HT.out; omega
          have HH := Lib.hid (rows_succ t q)
          go_wp2
          go_roundw
          case rel => exact ⟨q + 1, g, cap, n, by omega, by omega, by go_num, rfl, by rw [HH.out]; exact HO.out, HP.out⟩
          case measure => simp [intOf]; omega
    · have HQ := Lib.hid (show q = 3 by omega)
      have h57 : ¬ 5 + (q : Int) ≤ 7 := by omega
      have hn28 : n ≤ 28 := by omega
      replace HO := Lib.hid (show wr.ownsRow (w.heap.size + 1) 26 3 (.slice (some ⟨g, 0, none⟩) n cap) n (flat (enc3 .i64 .i64 .i64) (rowsL t 3)) from by have h6 := HO.out; rw [HQ.out] at h6; exact h6)
      clear hq hlt hn
      obtain ⟨c_0, c_1, c_2, c_3⟩ := box4_later hp
      clear ho hp
      go_wp2
      clear c_0 c_1 c_2 c_3
      go_loopw [3, 6] (fun lv kv wr => ∃ (v g cap n : Nat), v ≤ h ∧ n ≤ 28 + v ∧ kv = .int .i64 (v : Int) ∧ lv = .slice (some ⟨g, 0, none⟩) n cap ∧ wr.ownsRow (w.heap.size + 1) 26 3 (.slice (some ⟨g, 0, none⟩) n cap) n (flat (enc3 .i64 .i64 .i64) (rowsL t 3 ++ lvL 8 0 v)) ∧ Below (w.heap.size + 1) (w.alloc (.cells #[.int .i64 T, .int .i64 S, .int .i64 L, .int .u64 G] 24)) wr)
        (fun _ kv _ => h - (intOf kv).toNat)
      case atStart => exact ⟨0, g, cap, n, Nat.zero_le _, by omega, rfl, rfl, by rw [lv_zero, List.append_nil]; exact HO.out, HP.out⟩
      case round =>
        clear HO HP hn28
        obtain ⟨v, g, cap, n, hv, hn, rfl, rfl, ho, hp⟩ := hrel
        have HO := Lib.hid ho
        have HP := Lib.hid hp
        obtain ⟨c_0, c_1, c_2, c_3⟩ := box4_later hp
        clear ho hp
        by_cases hlv : (v : Int) < L
        · have HV := Lib.hid (show v < h by have := HL.out; omega)
          have HH := Lib.hid (lv_succ 8 0 v)
          go_wp2_with (at_builtin; refine wpList_append_to _ (w.alloc (.cells #[.int .i64 T, .int .i64 S, .int .i64 L, .int .u64 G] 24)) rfl (.tmp 40) (.tmp 43) 41 rfl (w.heap.size + 1) 26 i0 _ 3 24 Tryd.underlying41 hi hz0 hz1 hz2 rfl (by decide) _ n _ rfl (HO.out.alloc _) ⟨wr.heap.size, 0, none⟩ 1 1 (enc3 .i64 .i64 .i64 (8, 0, (v : Int))) rfl (by decide) rfl (cells_new _ _ _) (enc3_one _ _ _ _) (by simp only [maxLen]; omega) (by omega) (by have := size_past HP.out; simp; omega) (past_grow HP.out) ?_; intro g2 cap2 w6 ho2 hg2 hlt2 hb2)
          have HO6 := Lib.hid ho2
          have HP6 := Lib.hid hb2
          clear ho2 hb2
          go_roundw
          case rel => exact ⟨v + 1, g2, cap2, n + 1, HV.out, by omega, by go_num, rfl, by have h6 := HO6.out; rw [flat_snoc, List.append_assoc, ← HH.out] at h6; exact h6, HP6.out⟩
          case measure => have := HV.out; simp [intOf]; omega
        · obtain rfl : h = v := by have := HL.out; omega
          go_wp2
          clear c_0 c_1 c_2 c_3
          go_loopw [3, 7] (fun lv kv wr => ∃ (i g cap n : Nat), i ≤ s ∧ n ≤ 36 + 14 * i ∧ kv = .int .i64 ((i : Int) + 1) ∧ lv = .slice (some ⟨g, 0, none⟩) n cap ∧ wr.ownsRow (w.heap.size + 1) 26 3 (.slice (some ⟨g, 0, none⟩) n cap) n (flat (enc3 .i64 .i64 .i64) (toL t h i)) ∧ Below (w.heap.size + 1) (w.alloc (.cells #[.int .i64 T, .int .i64 S, .int .i64 L, .int .u64 G] 24)) wr)
            (fun _ kv _ => s + 1 - (intOf kv).toNat)
          case atStart => exact ⟨0, g, cap, n, Nat.zero_le _, by omega, rfl, rfl, by rw [to_zero]; have h6 := HO.out; rw [rows_three] at h6; exact h6, HP.out⟩
          case round =>
            clear HO HP hn
            obtain ⟨i, g, cap, n, hi', hn, rfl, rfl, ho, hp⟩ := hrel
            have HO := Lib.hid ho
            have HP := Lib.hid hp
            obtain ⟨c_0, c_1, c_2, c_3⟩ := box4_later hp
            clear ho hp
            by_cases hls : (i : Int) + 1 ≤ S
            · have HI := Lib.hid (show i < s by have := HS.out; omega)
              go_wp2
              clear c_0 c_1 c_2 c_3
              go_loopw [3, 8] (fun lv kv wr => ∃ (q g cap n : Nat), q ≤ 6 ∧ n ≤ 36 + 14 * i + q ∧ kv = .int .i64 (9 + (q : Int)) ∧ lv = .slice (some ⟨g, 0, none⟩) n cap ∧ wr.ownsRow (w.heap.size + 1) 26 3 (.slice (some ⟨g, 0, none⟩) n cap) n (flat (enc3 .i64 .i64 .i64) (toL t h i ++ sixQ ((i : Int) + 1) q)) ∧ Below (w.heap.size + 1) (w.alloc (.cells #[.int .i64 T, .int .i64 S, .int .i64 L, .int .u64 G] 24)) wr)
                (fun _ kv _ => 15 - (intOf kv).toNat)
              case atStart => exact ⟨0, g, cap, n, Nat.zero_le _, by omega, rfl, rfl, by rw [sixQ_zero, List.append_nil]; exact HO.out, HP.out⟩
              case round =>
                clear HO HP hn
                obtain ⟨q, g, cap, n, hq, hn, rfl, rfl, ho, hp⟩ := hrel
                have HO := Lib.hid ho
                have HP := Lib.hid hp
                obtain ⟨c_0, c_1, c_2, c_3⟩ := box4_later hp
                clear ho hp
                by_cases hlq : q < 6
                · have HH := Lib.hid (sixQ_succ ((i : Int) + 1) q)
                  go_wp2_with (at_builtin; refine wpList_append_to _ (w.alloc (.cells #[.int .i64 T, .int .i64 S, .int .i64 L, .int .u64 G] 24)) rfl (.tmp 55) (.tmp 59) 41 rfl (w.heap.size + 1) 26 i0 _ 3 24 Tryd.underlying41 hi hz0 hz1 hz2 rfl (by decide) _ n _ rfl (HO.out.alloc _) ⟨wr.heap.size, 0, none⟩ 1 1 (enc3 .i64 .i64 .i64 (9 + (q : Int), (i : Int) + 1, 0)) rfl (by decide) rfl (cells_new _ _ _) (enc3_one _ _ _ _) (by simp only [maxLen]; omega) (by omega) (by have := size_past HP.out; simp; omega) (past_grow HP.out) ?_; intro g2 cap2 w6 ho2 hg2 hlt2 hb2)
                  have HO6 := Lib.hid ho2
                  have HP6 := Lib.hid hb2
                  clear ho2 hb2
                  go_roundw
                  case rel => exact ⟨q + 1, g2, cap2, n + 1, by omega, by omega, by go_num, rfl, by have h6 := HO6.out; rw [flat_snoc, List.append_assoc, ← HH.out] at h6; exact h6, HP6.out⟩
                  case measure => simp [intOf]; omega
                · have HQ := Lib.hid (show q = 6 by omega)
                  have h914 : ¬ 9 + (q : Int) ≤ 14 := by omega
                  have hn42 : n ≤ 36 + 14 * i + 6 := by omega
                  replace HO := Lib.hid (show wr.ownsRow (w.heap.size + 1) 26 3 (.slice (some ⟨g, 0, none⟩) n cap) n (flat (enc3 .i64 .i64 .i64) (toL t h i ++ sixQ ((i : Int) + 1) 6)) from by have h6 := HO.out; rw [HQ.out] at h6; exact h6)
                  clear hq hlq hn
                  go_wp2
                  clear c_0 c_1 c_2 c_3
                  go_loopw [3, 9] (fun lv kv wr => ∃ (k g cap n : Nat), k ≤ h ∧ n ≤ 36 + 14 * i + 6 + k ∧ kv = .int .i64 (k : Int) ∧ lv = .slice (some ⟨g, 0, none⟩) n cap ∧ wr.ownsRow (w.heap.size + 1) 26 3 (.slice (some ⟨g, 0, none⟩) n cap) n (flat (enc3 .i64 .i64 .i64) ((toL t h i ++ sixQ ((i : Int) + 1) 6) ++ lvL 15 ((i : Int) + 1) k)) ∧ Below (w.heap.size + 1) (w.alloc (.cells #[.int .i64 T, .int .i64 S, .int .i64 L, .int .u64 G] 24)) wr)
                    (fun _ kv _ => h - (intOf kv).toNat)
                  case atStart => exact ⟨0, g, cap, n, Nat.zero_le _, by omega, rfl, rfl, by rw [lv_zero, List.append_nil]; exact HO.out, HP.out⟩
                  case round =>
                    clear HO HP hn42
                    obtain ⟨k, g, cap, n, hk, hn, rfl, rfl, ho, hp⟩ := hrel
                    have HO := Lib.hid ho
                    have HP := Lib.hid hp
                    obtain ⟨c_0, c_1, c_2, c_3⟩ := box4_later hp
                    clear ho hp
                    by_cases hlk : (k : Int) < L
                    · have HV := Lib.hid (show k < h by have := HL.out; omega)
                      have HH := Lib.hid (lv_succ 15 ((i : Int) + 1) k)
                      go_wp2_with (at_builtin; refine wpList_append_to _ (w.alloc (.cells #[.int .i64 T, .int .i64 S, .int .i64 L, .int .u64 G] 24)) rfl (.tmp 67) (.tmp 71) 41 rfl (w.heap.size + 1) 26 i0 _ 3 24 Tryd.underlying41 hi hz0 hz1 hz2 rfl (by decide) _ n _ rfl (HO.out.alloc _) ⟨wr.heap.size, 0, none⟩ 1 1 (enc3 .i64 .i64 .i64 (15, (i : Int) + 1, (k : Int))) rfl (by decide) rfl (cells_new _ _ _) (enc3_one _ _ _ _) (by simp only [maxLen]; omega) (by omega) (by have := size_past HP.out; simp; omega) (past_grow HP.out) ?_; intro g2 cap2 w6 ho2 hg2 hlt2 hb2)
                      have HO6 := Lib.hid ho2
                      have HP6 := Lib.hid hb2
                      clear ho2 hb2
                      go_roundw
                      case rel => exact ⟨k + 1, g2, cap2, n + 1, HV.out, by omega, by go_num, rfl, by have h6 := HO6.out; rw [flat_snoc, List.append_assoc, ← HH.out] at h6; exact h6, HP6.out⟩
                      case measure => have := HV.out; simp [intOf]; omega
                    · obtain rfl : h = k := by have := HL.out; omega
                      have HH := Lib.hid (slot_step t h i)
                      have HI' := HI.out
                      go_wp2
                      go_roundw
                      case rel => exact ⟨i + 1, g, cap, n, by omega, by omega, by go_num, rfl, by rw [HH.out]; exact HO.out, HP.out⟩
                      case measure => simp [intOf]; omega
            · obtain rfl : s = i := by have := HS.out; omega
              go_wp2
              go_ret
              have hr := Row.of_own HO.out
              have hl := HO.out.1
              rw [flat_length (enc3_length _ _ _)] at hl
              exact ⟨some ⟨g, 0, none⟩, cap, by rw [show (spL t s h).length = n by unfold spL; omega]; rfl, hr, below_past HP.out⟩
theorem All_no {T S L G : Int} (hr : rightB T S L G = false) (w : World) : Calls Tryd.prog 21 #[.agg #[.int .i64 T, .int .i64 S, .int .i64 L, .int .u64 G]] w (Spots w []) := by
  have HR := Lib.hid hr
  clear hr
  go_enter Tryd.func21, Tryd.ntmps21
  go_wp2_with fail
  refine (PlanRef.Right_no HR.out _).mono ?_
  rintro e w' ⟨rfl, hb⟩
  have HP0 := Lib.hid (show Below (w.heap.size + 1) (w.alloc (.cells #[.int .i64 T, .int .i64 S, .int .i64 L, .int .u64 G] 24)) w' from by simpa using hb)
  go_wp2
  go_ret
  exact ⟨none, 0, rfl, Row.none_, below_past HP0.out⟩
theorem All_any (T S L G : Int) (w : World) : Calls Tryd.prog 21 #[.agg #[.int .i64 T, .int .i64 S, .int .i64 L, .int .u64 G]] w (Spots w (spI T S L G)) := by
  cases hr : rightB T S L G
  · rw [show spI T S L G = [] by unfold spI; rw [hr]; rfl]
    exact All_no hr w
  · obtain ⟨t, s, h, hT, hS, hL, _⟩ := small_of hr
    rw [show spI T S L G = spL t s h by unfold spI; rw [if_pos hr, hT, hS, hL]; rfl]
    exact All_yes hr t s h hT hS hL w
end Go.Proofs.YtjmkbcdolkgcgaaDoor.PlaceAll
