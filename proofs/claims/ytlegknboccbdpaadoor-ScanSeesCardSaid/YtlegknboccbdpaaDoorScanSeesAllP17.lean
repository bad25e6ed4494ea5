import Derived.Test.YtlegknboccbdpaaDoorScanSeesAllP3
/- The document's answers for layer 8 (package sundialref08), held to the same plain arithmetic. -/
namespace Go.Proofs.YtlegknboccbdpaaDoor.PlanRef
set_option maxRecDepth 20000
open Go.ChangeShapes Go.WideShapes Go.RowKit PM Lay Plan

theorem Right_yes {T S L G : Int} (h : rightB T S L G = true) (w : World) : Calls Tryd.prog 5 #[.agg #[.int .i64 T, .int .i64 S, .int .i64 L, .int .u64 G]] w fun e w' => e = .returned (.bool true) ∧ Below w.heap.size w w' := by
  obtain ⟨h1, h2, h3, h4, h5, h6, h7⟩ := right_is h
  obtain ⟨c_0, c_1, c_2, c_3⟩ := box4 w (.int .i64 T) (.int .i64 S) (.int .i64 L) (.int .u64 G) 24
  clear h
  go_enter Tryd.func5, Tryd.ntmps5
  go_wp2
  go_ret
  exact ⟨ret_bool (by simp), box_below _ _⟩
theorem Right_no {T S L G : Int} (h : rightB T S L G = false) (w : World) : Calls Tryd.prog 5 #[.agg #[.int .i64 T, .int .i64 S, .int .i64 L, .int .u64 G]] w fun e w' => e = .returned (.bool false) ∧ Below w.heap.size w w' := by
  have hn := right_not h
  obtain ⟨c_0, c_1, c_2, c_3⟩ := box4 w (.int .i64 T) (.int .i64 S) (.int .i64 L) (.int .u64 G) 24
  clear h
  by_cases h1 : 1 ≤ T
  · by_cases h2 : T ≤ 8
    · by_cases h3 : 1 ≤ S
      · by_cases h4 : S ≤ 64
        · by_cases h5 : 1 ≤ L
          · by_cases h6 : L ≤ 8
            · have h7 : 4294967295 < G := by omega
              clear hn
              go_enter Tryd.func5, Tryd.ntmps5
              go_wp2
              go_ret
              exact ⟨ret_bool (by simp [h7]), box_below _ _⟩
            · clear hn
              go_enter Tryd.func5, Tryd.ntmps5
              go_wp2
              go_ret
              exact ⟨ret_bool (by simp), box_below _ _⟩
          · clear hn
            go_enter Tryd.func5, Tryd.ntmps5
            go_wp2
            go_ret
            exact ⟨ret_bool (by simp), box_below _ _⟩
        · clear hn
          go_enter Tryd.func5, Tryd.ntmps5
          go_wp2
          go_ret
          exact ⟨ret_bool (by simp), box_below _ _⟩
      · clear hn
        go_enter Tryd.func5, Tryd.ntmps5
        go_wp2
        go_ret
        exact ⟨ret_bool (by simp), box_below _ _⟩
    · clear hn
      go_enter Tryd.func5, Tryd.ntmps5
      go_wp2
      go_ret
      exact ⟨ret_bool (by simp), box_below _ _⟩
  · clear hn
    go_enter Tryd.func5, Tryd.ntmps5
    go_wp2
    go_ret
    exact ⟨ret_bool (by simp), box_below _ _⟩
theorem Head_any (T S L G k : Int) (w : World) : Calls Tryd.prog 77 #[.agg #[.int .i64 T, .int .i64 S, .int .i64 L, .int .u64 G], .int .i64 k] w fun e w' => e = .returned (.int .i64 (ofI T 3 k)) ∧ Below w.heap.size w w' := by
  obtain ⟨c_0, c_1, c_2, c_3⟩ := box4 w (.int .i64 T) (.int .i64 S) (.int .i64 L) (.int .u64 G) 24
  go_enter Tryd.func77, Tryd.ntmps77
  go_wp2
  go_ret
  exact ⟨ret_i64 (ref_row T 3 k), box_below _ _⟩
theorem Slot_any (T S L G s k : Int) (w : World) : Calls Tryd.prog 14 #[.agg #[.int .i64 T, .int .i64 S, .int .i64 L, .int .u64 G], .int .i64 s, .int .i64 k] w fun e w' => e = .returned (.int .i64 (atI T L s k)) ∧ Below w.heap.size w w' := by
  obtain ⟨c_0, c_1, c_2, c_3⟩ := box4 w (.int .i64 T) (.int .i64 S) (.int .i64 L) (.int .u64 G) 24
  go_enter Tryd.func14, Tryd.ntmps14
  go_wp2
  go_ret
  exact ⟨ret_i64 (ref_slot T L s k), box_below _ _⟩
theorem Words_any (T S L G : Int) (w : World) : Calls Tryd.prog 6 #[.agg #[.int .i64 T, .int .i64 S, .int .i64 L, .int .u64 G]] w fun e w' => e = .returned (.int .i64 (atI T L (wrap64 (S + 1)) 0)) ∧ Below w.heap.size w w' := by
  obtain ⟨c_0, c_1, c_2, c_3⟩ := box4 w (.int .i64 T) (.int .i64 S) (.int .i64 L) (.int .u64 G) 24
  go_enter Tryd.func6, Tryd.ntmps6
  go_wp2_with fail
  refine (Slot_any T S L G (wrap64 (S + 1)) 0 _).mono ?_
  rintro e w' ⟨rfl, hb⟩
  go_wp2
  go_ret
  exact ⟨rfl, (box_below _ _).trans (hb.mono (by simp))⟩
theorem Next_zero (T S L G k : Int) (w : World) : Calls Tryd.prog 69 #[.agg #[.int .i64 T, .int .i64 S, .int .i64 L, .int .u64 G], .int .i64 0, .int .i64 k] w fun e w' => e = .returned (.int .i64 (nextI T L 0 k)) ∧ Below w.heap.size w w' := by
  obtain ⟨c_0, c_1, c_2, c_3⟩ := box4 w (.int .i64 T) (.int .i64 S) (.int .i64 L) (.int .u64 G) 24
  go_enter Tryd.func69, Tryd.ntmps69
  go_wp2_with fail
  refine (Head_any T S L G k _).mono ?_
  rintro e w' ⟨rfl, hb⟩
  go_wp2
  go_ret
  exact ⟨ret_i64 (next_zero T L k).symm, (box_below _ _).trans (hb.mono (by simp))⟩
theorem Next_some (T S L G s k : Int) (h : ¬ s = 0) (w : World) : Calls Tryd.prog 69 #[.agg #[.int .i64 T, .int .i64 S, .int .i64 L, .int .u64 G], .int .i64 s, .int .i64 k] w fun e w' => e = .returned (.int .i64 (nextI T L s k)) ∧ Below w.heap.size w w' := by
  obtain ⟨c_0, c_1, c_2, c_3⟩ := box4 w (.int .i64 T) (.int .i64 S) (.int .i64 L) (.int .u64 G) 24
  have h0 : (s == 0) = false := by simpa using h
  go_enter Tryd.func69, Tryd.ntmps69
  go_wp2_with fail
  refine (Slot_any T S L G s (wrap64 (6 + k)) _).mono ?_
  rintro e w' ⟨rfl, hb⟩
  go_wp2
  go_ret
  exact ⟨ret_i64 ((at_wrap T L s (6 + k)).trans (next_some h).symm), (box_below _ _).trans (hb.mono (by simp))⟩
theorem Next_any (T S L G s k : Int) (w : World) : Calls Tryd.prog 69 #[.agg #[.int .i64 T, .int .i64 S, .int .i64 L, .int .u64 G], .int .i64 s, .int .i64 k] w fun e w' => e = .returned (.int .i64 (nextI T L s k)) ∧ Below w.heap.size w w' := by
  by_cases h : s = 0
  · subst h; exact Next_zero T S L G k w
  · exact Next_some T S L G s k h w
end Go.Proofs.YtlegknboccbdpaaDoor.PlanRef
