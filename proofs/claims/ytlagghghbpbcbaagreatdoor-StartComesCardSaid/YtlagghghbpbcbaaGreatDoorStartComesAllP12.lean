import Derived.Test.YtlagghghbpbcbaaGreatDoorRows
import Derived.Test.YtlagghghbpbcbaaGreatDoorStartComesAllP7
import Derived.Test.YtlagghghbpbcbaaGreatDoorStartComesAllP1
import Derived.WalkKit
import Derived.ProofKit
import Derived.Lib.Hide
/- The functions of package plan (layer 8), each held to plain arithmetic, at every plan and all numbers: what each call returns; what lay in memory ahead stays as it was. -/
namespace Go.Proofs.YtlagghghbpbcbaaGreatDoor.Plan
set_option maxRecDepth 20000
open Go.ChangeShapes Go.WideShapes Go.RowKit PM Lay

theorem ret_i64 {a b : Int} (h : a = b) : Ending.returned (.int .i64 a) = .returned (.int .i64 b) := by rw [h]
theorem ret_bool {a b : Bool} (h : a = b) : Ending.returned (.bool a) = .returned (.bool b) := by rw [h]
theorem mixed : Tryz.prog.follows .mixedOrders = true := by kernel_rfl

/-- The four cells of a boxed plan. -/
theorem box4 (w : World) (v0 v1 v2 v3 : Value) (t : TypeId) : (w.alloc (.cells #[v0, v1, v2, v3] t)).cell? ⟨w.heap.size, 0, none⟩ = some v0 ∧ (w.alloc (.cells #[v0, v1, v2, v3] t)).cell? ⟨w.heap.size, 1, none⟩ = some v1 ∧
    (w.alloc (.cells #[v0, v1, v2, v3] t)).cell? ⟨w.heap.size, 2, none⟩ = some v2 ∧ (w.alloc (.cells #[v0, v1, v2, v3] t)).cell? ⟨w.heap.size, 3, none⟩ = some v3 := by
  refine ⟨?_, ?_, ?_, ?_⟩ <;> (rw [cell_of_row _ _ _ _ _ _ (heap_alloc_new w _)]; rfl)
theorem box4_later {w wr : World} {v0 v1 v2 v3 : Value} {t : TypeId} (hb : Below (w.heap.size + 1) (w.alloc (.cells #[v0, v1, v2, v3] t)) wr) : wr.cell? ⟨w.heap.size, 0, none⟩ = some v0 ∧ wr.cell? ⟨w.heap.size, 1, none⟩ = some v1 ∧ wr.cell? ⟨w.heap.size, 2, none⟩ = some v2 ∧ wr.cell? ⟨w.heap.size, 3, none⟩ = some v3 :=
  ⟨box_cell hb 0, box_cell hb 1, box_cell hb 2, box_cell hb 3⟩
theorem box_below (w : World) (o : Obj) : Below w.heap.size w (w.alloc o) := (Below.refl _ _).alloc (Nat.le_refl _) _

theorem within_yes {a b : Int} (h : 1 ≤ a ∧ a ≤ b) (w : World) : Calls Tryz.prog 70 #[.int .i64 a, .int .i64 b] w fun e w' => e = .returned (.bool true) ∧ w = w' := by
  obtain ⟨h1, h2⟩ := h
  go_enter Tryz.func70, Tryz.ntmps70
  go_wp2
  go_ret
  exact ⟨ret_bool (by simp), rfl⟩
theorem within_no {a b : Int} (h : ¬ (1 ≤ a ∧ a ≤ b)) (w : World) : Calls Tryz.prog 70 #[.int .i64 a, .int .i64 b] w fun e w' => e = .returned (.bool false) ∧ w = w' := by
  by_cases h1 : 1 ≤ a
  · have h2 : ¬ a ≤ b := by omega
    clear h
    go_enter Tryz.func70, Tryz.ntmps70
    go_wp2
    go_ret
    exact ⟨ret_bool (by simp), rfl⟩
  · clear h
    go_enter Tryz.func70, Tryz.ntmps70
    go_wp2
    go_ret
    exact ⟨ret_bool (by simp), rfl⟩

theorem row_any (T S L G n : Int) (w : World) : Calls Tryz.prog 45 #[.agg #[.int .i64 T, .int .i64 S, .int .i64 L, .int .u64 G], .int .i64 n] w fun e w' => e = .returned (.int .i64 (rowI T n)) ∧ Below w.heap.size w w' := by
  go_enter Tryz.func45, Tryz.ntmps45
  go_wp2
  go_ret
  exact ⟨ret_i64 (by unfold rowI; rw [add_r]), box_below _ _⟩
theorem first_any (T S L G s : Int) (w : World) : Calls Tryz.prog 49 #[.agg #[.int .i64 T, .int .i64 S, .int .i64 L, .int .u64 G], .int .i64 s] w fun e w' => e = .returned (.int .i64 (atI T L s 0)) ∧ Below w.heap.size w w' := by
  obtain ⟨c_0, c_1, c_2, c_3⟩ := box4 w (.int .i64 T) (.int .i64 S) (.int .i64 L) (.int .u64 G) 24
  have C_0 := fun p : After (w.alloc (.cells #[.int .i64 T, .int .i64 S, .int .i64 L, .int .u64 G] 24)) => p.cell c_0
  have C_1 := fun p : After (w.alloc (.cells #[.int .i64 T, .int .i64 S, .int .i64 L, .int .u64 G] 24)) => p.cell c_1
  have C_2 := fun p : After (w.alloc (.cells #[.int .i64 T, .int .i64 S, .int .i64 L, .int .u64 G] 24)) => p.cell c_2
  have C_3 := fun p : After (w.alloc (.cells #[.int .i64 T, .int .i64 S, .int .i64 L, .int .u64 G] 24)) => p.cell c_3
  clear c_0 c_1 c_2 c_3
  go_enter Tryz.func49, Tryz.ntmps49
  go_wp2
  refine wp_region_after mixed (by kernel_rfl) ?_
  repeat (first | go_big_quiet_step (exact calls_after (row_any T S L G 3 _)) | quiet_step (exact calls_after (row_any T S L G 3 _)))
  refine wpQuiet_nil ?_
  intro _ hw'
  obtain ⟨pq, hw''⟩ := hw'
  subst hw''
  go_wp2
  go_ret
  exact ⟨ret_i64 (first_of T L s), (box_below _ _).trans (pq.ok.mono (by simp))⟩
theorem Words_any (T S L G : Int) (w : World) : Calls Tryz.prog 54 #[.agg #[.int .i64 T, .int .i64 S, .int .i64 L, .int .u64 G]] w fun e w' => e = .returned (.int .i64 (atI T L (wrap64 (S + 1)) 0)) ∧ Below w.heap.size w w' := by
  obtain ⟨c_0, c_1, c_2, c_3⟩ := box4 w (.int .i64 T) (.int .i64 S) (.int .i64 L) (.int .u64 G) 24
  go_enter Tryz.func54, Tryz.ntmps54
  go_wp2_with fail
  refine (first_any T S L G (wrap64 (S + 1)) _).mono ?_
  rintro e w' ⟨rfl, hb⟩
  go_wp2
  go_ret
  exact ⟨rfl, (box_below _ _).trans (hb.mono (by simp))⟩
theorem Pin_any (T S L G k : Int) (w : World) : Calls Tryz.prog 14 #[.agg #[.int .i64 T, .int .i64 S, .int .i64 L, .int .u64 G], .int .i64 k] w fun e w' => e = .returned (.int .i64 (ofI T 0 k)) ∧ Below w.heap.size w w' := by
  obtain ⟨c_0, c_1, c_2, c_3⟩ := box4 w (.int .i64 T) (.int .i64 S) (.int .i64 L) (.int .u64 G) 24
  go_enter Tryz.func14, Tryz.ntmps14
  go_wp2_with fail
  refine (row_any T S L G 0 _).mono ?_
  rintro e w' ⟨rfl, hb⟩
  go_wp2
  go_ret
  exact ⟨ret_i64 (row_of T 0 k), (box_below _ _).trans (hb.mono (by simp))⟩
theorem Sleep_any (T S L G k : Int) (w : World) : Calls Tryz.prog 239 #[.agg #[.int .i64 T, .int .i64 S, .int .i64 L, .int .u64 G], .int .i64 k] w fun e w' => e = .returned (.int .i64 (ofI T 1 k)) ∧ Below w.heap.size w w' := by
  obtain ⟨c_0, c_1, c_2, c_3⟩ := box4 w (.int .i64 T) (.int .i64 S) (.int .i64 L) (.int .u64 G) 24
  go_enter Tryz.func239, Tryz.ntmps239
  go_wp2_with fail
  refine (row_any T S L G 1 _).mono ?_
  rintro e w' ⟨rfl, hb⟩
  go_wp2
  go_ret
  exact ⟨ret_i64 (row_of T 1 k), (box_below _ _).trans (hb.mono (by simp))⟩
theorem Sem_any (T S L G k : Int) (w : World) : Calls Tryz.prog 237 #[.agg #[.int .i64 T, .int .i64 S, .int .i64 L, .int .u64 G], .int .i64 k] w fun e w' => e = .returned (.int .i64 (ofI T 2 k)) ∧ Below w.heap.size w w' := by
  obtain ⟨c_0, c_1, c_2, c_3⟩ := box4 w (.int .i64 T) (.int .i64 S) (.int .i64 L) (.int .u64 G) 24
  go_enter Tryz.func237, Tryz.ntmps237
  go_wp2_with fail
  refine (row_any T S L G 2 _).mono ?_
  rintro e w' ⟨rfl, hb⟩
  go_wp2
  go_ret
  exact ⟨ret_i64 (row_of T 2 k), (box_below _ _).trans (hb.mono (by simp))⟩
theorem State_any (T S L G s : Int) (w : World) : Calls Tryz.prog 19 #[.agg #[.int .i64 T, .int .i64 S, .int .i64 L, .int .u64 G], .int .i64 s] w fun e w' => e = .returned (.int .i64 (atI T L s 0)) ∧ Below w.heap.size w w' := by
  obtain ⟨c_0, c_1, c_2, c_3⟩ := box4 w (.int .i64 T) (.int .i64 S) (.int .i64 L) (.int .u64 G) 24
  go_enter Tryz.func19, Tryz.ntmps19
  go_wp2_with fail
  refine (first_any T S L G s _).mono ?_
  rintro e w' ⟨rfl, hb⟩
  go_wp2
  go_ret
  exact ⟨ret_i64 (by first | exact at_of T L s 0 | exact w_w _), (box_below _ _).trans (hb.mono (by simp))⟩
theorem Dead_any (T S L G s : Int) (w : World) : Calls Tryz.prog 124 #[.agg #[.int .i64 T, .int .i64 S, .int .i64 L, .int .u64 G], .int .i64 s] w fun e w' => e = .returned (.int .i64 (atI T L s 1)) ∧ Below w.heap.size w w' := by
  obtain ⟨c_0, c_1, c_2, c_3⟩ := box4 w (.int .i64 T) (.int .i64 S) (.int .i64 L) (.int .u64 G) 24
  go_enter Tryz.func124, Tryz.ntmps124
  go_wp2_with fail
  refine (first_any T S L G s _).mono ?_
  rintro e w' ⟨rfl, hb⟩
  go_wp2
  go_ret
  exact ⟨ret_i64 (by first | exact at_of T L s 1 | exact w_w _), (box_below _ _).trans (hb.mono (by simp))⟩
theorem Seq_any (T S L G s : Int) (w : World) : Calls Tryz.prog 125 #[.agg #[.int .i64 T, .int .i64 S, .int .i64 L, .int .u64 G], .int .i64 s] w fun e w' => e = .returned (.int .i64 (atI T L s 2)) ∧ Below w.heap.size w w' := by
  obtain ⟨c_0, c_1, c_2, c_3⟩ := box4 w (.int .i64 T) (.int .i64 S) (.int .i64 L) (.int .u64 G) 24
  go_enter Tryz.func125, Tryz.ntmps125
  go_wp2_with fail
  refine (first_any T S L G s _).mono ?_
  rintro e w' ⟨rfl, hb⟩
  go_wp2
  go_ret
  exact ⟨ret_i64 (by first | exact at_of T L s 2 | exact w_w _), (box_below _ _).trans (hb.mono (by simp))⟩
theorem Tall_any (T S L G s : Int) (w : World) : Calls Tryz.prog 126 #[.agg #[.int .i64 T, .int .i64 S, .int .i64 L, .int .u64 G], .int .i64 s] w fun e w' => e = .returned (.int .i64 (atI T L s 3)) ∧ Below w.heap.size w w' := by
  obtain ⟨c_0, c_1, c_2, c_3⟩ := box4 w (.int .i64 T) (.int .i64 S) (.int .i64 L) (.int .u64 G) 24
  go_enter Tryz.func126, Tryz.ntmps126
  go_wp2_with fail
  refine (first_any T S L G s _).mono ?_
  rintro e w' ⟨rfl, hb⟩
  go_wp2
  go_ret
  exact ⟨ret_i64 (by first | exact at_of T L s 3 | exact w_w _), (box_below _ _).trans (hb.mono (by simp))⟩
theorem Hold_any (T S L G s : Int) (w : World) : Calls Tryz.prog 127 #[.agg #[.int .i64 T, .int .i64 S, .int .i64 L, .int .u64 G], .int .i64 s] w fun e w' => e = .returned (.int .i64 (atI T L s 4)) ∧ Below w.heap.size w w' := by
  obtain ⟨c_0, c_1, c_2, c_3⟩ := box4 w (.int .i64 T) (.int .i64 S) (.int .i64 L) (.int .u64 G) 24
  go_enter Tryz.func127, Tryz.ntmps127
  go_wp2_with fail
  refine (first_any T S L G s _).mono ?_
  rintro e w' ⟨rfl, hb⟩
  go_wp2
  go_ret
  exact ⟨ret_i64 (by first | exact at_of T L s 4 | exact w_w _), (box_below _ _).trans (hb.mono (by simp))⟩
theorem Succ_any (T S L G s : Int) (w : World) : Calls Tryz.prog 41 #[.agg #[.int .i64 T, .int .i64 S, .int .i64 L, .int .u64 G], .int .i64 s] w fun e w' => e = .returned (.int .i64 (atI T L s 5)) ∧ Below w.heap.size w w' := by
  obtain ⟨c_0, c_1, c_2, c_3⟩ := box4 w (.int .i64 T) (.int .i64 S) (.int .i64 L) (.int .u64 G) 24
  go_enter Tryz.func41, Tryz.ntmps41
  go_wp2_with fail
  refine (first_any T S L G s _).mono ?_
  rintro e w' ⟨rfl, hb⟩
  go_wp2
  go_ret
  exact ⟨ret_i64 (by first | exact at_of T L s 5 | exact w_w _), (box_below _ _).trans (hb.mono (by simp))⟩
theorem Next_zero (T S L G k : Int) (w : World) : Calls Tryz.prog 206 #[.agg #[.int .i64 T, .int .i64 S, .int .i64 L, .int .u64 G], .int .i64 0, .int .i64 k] w fun e w' => e = .returned (.int .i64 (nextI T L 0 k)) ∧ Below w.heap.size w w' := by
  obtain ⟨c_0, c_1, c_2, c_3⟩ := box4 w (.int .i64 T) (.int .i64 S) (.int .i64 L) (.int .u64 G) 24
  go_enter Tryz.func206, Tryz.ntmps206
  go_wp2_with fail
  refine (row_any T S L G 3 _).mono ?_
  rintro e w' ⟨rfl, hb⟩
  go_wp2
  go_ret
  exact ⟨ret_i64 ((row_of T 3 k).trans (next_zero T L k).symm), (box_below _ _).trans (hb.mono (by simp))⟩
theorem Next_some (T S L G s k : Int) (h : ¬ s = 0) (w : World) : Calls Tryz.prog 206 #[.agg #[.int .i64 T, .int .i64 S, .int .i64 L, .int .u64 G], .int .i64 s, .int .i64 k] w fun e w' => e = .returned (.int .i64 (nextI T L s k)) ∧ Below w.heap.size w w' := by
  obtain ⟨c_0, c_1, c_2, c_3⟩ := box4 w (.int .i64 T) (.int .i64 S) (.int .i64 L) (.int .u64 G) 24
  have h0 : (s == 0) = false := by simpa using h
  go_enter Tryz.func206, Tryz.ntmps206
  go_wp2_with fail
  refine (first_any T S L G s _).mono ?_
  rintro e w' ⟨rfl, hb⟩
  go_wp2
  go_ret
  exact ⟨ret_i64 ((at_next T L s k).trans (next_some h).symm), (box_below _ _).trans (hb.mono (by simp))⟩
theorem Next_any (T S L G s k : Int) (w : World) : Calls Tryz.prog 206 #[.agg #[.int .i64 T, .int .i64 S, .int .i64 L, .int .u64 G], .int .i64 s, .int .i64 k] w fun e w' => e = .returned (.int .i64 (nextI T L s k)) ∧ Below w.heap.size w w' := by
  by_cases h : s = 0
  · subst h; exact Next_zero T S L G k w
  · exact Next_some T S L G s k h w
theorem Right_yes {T S L G : Int} (h : rightB T S L G = true) (w : World) : Calls Tryz.prog 38 #[.agg #[.int .i64 T, .int .i64 S, .int .i64 L, .int .u64 G]] w fun e w' => e = .returned (.int .i64 0) ∧ Below w.heap.size w w' := by
  obtain ⟨h1, h2, h3, h4, h5, h6, h7⟩ := right_is h
  obtain ⟨c_0, c_1, c_2, c_3⟩ := box4 w (.int .i64 T) (.int .i64 S) (.int .i64 L) (.int .u64 G) 24
  clear h
  go_enter Tryz.func38, Tryz.ntmps38
  go_wp2_with fail
  refine (within_yes ⟨h1, h2⟩ _).mono ?_
  rintro e w' ⟨rfl, rfl⟩
  go_wp2_with fail
  refine (within_yes ⟨h3, h4⟩ _).mono ?_
  rintro e w' ⟨rfl, rfl⟩
  go_wp2_with fail
  refine (within_yes ⟨h5, h6⟩ _).mono ?_
  rintro e w' ⟨rfl, rfl⟩
  go_wp2
  go_ret
  exact ⟨rfl, box_below _ _⟩
theorem Right_no {T S L G : Int} (h : rightB T S L G = false) (w : World) : Calls Tryz.prog 38 #[.agg #[.int .i64 T, .int .i64 S, .int .i64 L, .int .u64 G]] w fun e w' => e = .returned (.int .i64 1) ∧ Below w.heap.size w w' := by
  have hn := right_not h
  obtain ⟨c_0, c_1, c_2, c_3⟩ := box4 w (.int .i64 T) (.int .i64 S) (.int .i64 L) (.int .u64 G) 24
  clear h
  by_cases hT : 1 ≤ T ∧ T ≤ 8
  · by_cases hS : 1 ≤ S ∧ S ≤ 64
    · by_cases hL : 1 ≤ L ∧ L ≤ 8
      · have hG : 4294967295 < G := by omega
        have HT := Lib.hid hT
        have HS := Lib.hid hS
        have HL := Lib.hid hL
        clear hT hS hL hn
        go_enter Tryz.func38, Tryz.ntmps38
        go_wp2_with fail
        refine (within_yes HT.out _).mono ?_
        rintro e w' ⟨rfl, rfl⟩
        go_wp2_with fail
        refine (within_yes HS.out _).mono ?_
        rintro e w' ⟨rfl, rfl⟩
        go_wp2_with fail
        refine (within_yes HL.out _).mono ?_
        rintro e w' ⟨rfl, rfl⟩
        go_wp2
        go_ret
        exact ⟨rfl, box_below _ _⟩
      · have HT := Lib.hid hT
        have HS := Lib.hid hS
        have HL := Lib.hid hL
        clear hT hS hL hn
        go_enter Tryz.func38, Tryz.ntmps38
        go_wp2_with fail
        refine (within_yes HT.out _).mono ?_
        rintro e w' ⟨rfl, rfl⟩
        go_wp2_with fail
        refine (within_yes HS.out _).mono ?_
        rintro e w' ⟨rfl, rfl⟩
        go_wp2_with fail
        refine (within_no HL.out _).mono ?_
        rintro e w' ⟨rfl, rfl⟩
        go_wp2
        go_ret
        exact ⟨rfl, box_below _ _⟩
    · have HT := Lib.hid hT
      have HS := Lib.hid hS
      clear hT hS hn
      go_enter Tryz.func38, Tryz.ntmps38
      go_wp2_with fail
      refine (within_yes HT.out _).mono ?_
      rintro e w' ⟨rfl, rfl⟩
      go_wp2_with fail
      refine (within_no HS.out _).mono ?_
      rintro e w' ⟨rfl, rfl⟩
      go_wp2
      go_ret
      exact ⟨rfl, box_below _ _⟩
  · have HT := Lib.hid hT
    clear hT hn
    go_enter Tryz.func38, Tryz.ntmps38
    go_wp2_with fail
    refine (within_no HT.out _).mono ?_
    rintro e w' ⟨rfl, rfl⟩
    go_wp2
    go_ret
    exact ⟨rfl, box_below _ _⟩
end Go.Proofs.YtlagghghbpbcbaaGreatDoor.Plan

/- The document's answers for layer 8 (package sundialref08), held to the same plain arithmetic. -/
namespace Go.Proofs.YtlagghghbpbcbaaGreatDoor.PlanRef
set_option maxRecDepth 20000
open Go.ChangeShapes Go.WideShapes Go.RowKit PM Lay Plan

theorem Right_yes {T S L G : Int} (h : rightB T S L G = true) (w : World) : Calls Tryz.prog 28 #[.agg #[.int .i64 T, .int .i64 S, .int .i64 L, .int .u64 G]] w fun e w' => e = .returned (.bool true) ∧ Below w.heap.size w w' := by
  obtain ⟨h1, h2, h3, h4, h5, h6, h7⟩ := right_is h
  obtain ⟨c_0, c_1, c_2, c_3⟩ := box4 w (.int .i64 T) (.int .i64 S) (.int .i64 L) (.int .u64 G) 24
  clear h
  go_enter Tryz.func28, Tryz.ntmps28
  go_wp2
  go_ret
  exact ⟨ret_bool (by simp), box_below _ _⟩
theorem Right_no {T S L G : Int} (h : rightB T S L G = false) (w : World) : Calls Tryz.prog 28 #[.agg #[.int .i64 T, .int .i64 S, .int .i64 L, .int .u64 G]] w fun e w' => e = .returned (.bool false) ∧ Below w.heap.size w w' := by
  have hn := right_not h
  obtain ⟨c_0, c_1, c_2, c_3⟩ := box4 w (.int .i64 T) (.int .i64 S) (.int .i64 L) (.int .u64 G) 24
  clear h
  by_cases h1 : 1 ≤ T
  · by_cases h2 : T ≤ 8
    · by_cases h3 : 1 ≤ S
      · by_cases h4 : S ≤ 64
        · by_cases h5 : 1 ≤ L
          · by_cases h6 : L ≤ 8
            · have h7 : 4294967295 < G := by omega
              clear hn
              go_enter Tryz.func28, Tryz.ntmps28
              go_wp2
              go_ret
              exact ⟨ret_bool (by simp [h7]), box_below _ _⟩
            · clear hn
              go_enter Tryz.func28, Tryz.ntmps28
              go_wp2
              go_ret
              exact ⟨ret_bool (by simp), box_below _ _⟩
          · clear hn
            go_enter Tryz.func28, Tryz.ntmps28
            go_wp2
            go_ret
            exact ⟨ret_bool (by simp), box_below _ _⟩
        · clear hn
          go_enter Tryz.func28, Tryz.ntmps28
          go_wp2
          go_ret
          exact ⟨ret_bool (by simp), box_below _ _⟩
      · clear hn
        go_enter Tryz.func28, Tryz.ntmps28
        go_wp2
        go_ret
        exact ⟨ret_bool (by simp), box_below _ _⟩
    · clear hn
      go_enter Tryz.func28, Tryz.ntmps28
      go_wp2
      go_ret
      exact ⟨ret_bool (by simp), box_below _ _⟩
  · clear hn
    go_enter Tryz.func28, Tryz.ntmps28
    go_wp2
    go_ret
    exact ⟨ret_bool (by simp), box_below _ _⟩
theorem Head_any (T S L G k : Int) (w : World) : Calls Tryz.prog 122 #[.agg #[.int .i64 T, .int .i64 S, .int .i64 L, .int .u64 G], .int .i64 k] w fun e w' => e = .returned (.int .i64 (ofI T 3 k)) ∧ Below w.heap.size w w' := by
  obtain ⟨c_0, c_1, c_2, c_3⟩ := box4 w (.int .i64 T) (.int .i64 S) (.int .i64 L) (.int .u64 G) 24
  go_enter Tryz.func122, Tryz.ntmps122
  go_wp2
  go_ret
  exact ⟨ret_i64 (ref_row T 3 k), box_below _ _⟩
theorem Slot_any (T S L G s k : Int) (w : World) : Calls Tryz.prog 34 #[.agg #[.int .i64 T, .int .i64 S, .int .i64 L, .int .u64 G], .int .i64 s, .int .i64 k] w fun e w' => e = .returned (.int .i64 (atI T L s k)) ∧ Below w.heap.size w w' := by
  obtain ⟨c_0, c_1, c_2, c_3⟩ := box4 w (.int .i64 T) (.int .i64 S) (.int .i64 L) (.int .u64 G) 24
  go_enter Tryz.func34, Tryz.ntmps34
  go_wp2
  go_ret
  exact ⟨ret_i64 (ref_slot T L s k), box_below _ _⟩
theorem Words_any (T S L G : Int) (w : World) : Calls Tryz.prog 29 #[.agg #[.int .i64 T, .int .i64 S, .int .i64 L, .int .u64 G]] w fun e w' => e = .returned (.int .i64 (atI T L (wrap64 (S + 1)) 0)) ∧ Below w.heap.size w w' := by
  obtain ⟨c_0, c_1, c_2, c_3⟩ := box4 w (.int .i64 T) (.int .i64 S) (.int .i64 L) (.int .u64 G) 24
  go_enter Tryz.func29, Tryz.ntmps29
  go_wp2_with fail
  refine (Slot_any T S L G (wrap64 (S + 1)) 0 _).mono ?_
  rintro e w' ⟨rfl, hb⟩
  go_wp2
  go_ret
  exact ⟨rfl, (box_below _ _).trans (hb.mono (by simp))⟩
theorem Next_zero (T S L G k : Int) (w : World) : Calls Tryz.prog 111 #[.agg #[.int .i64 T, .int .i64 S, .int .i64 L, .int .u64 G], .int .i64 0, .int .i64 k] w fun e w' => e = .returned (.int .i64 (nextI T L 0 k)) ∧ Below w.heap.size w w' := by
  obtain ⟨c_0, c_1, c_2, c_3⟩ := box4 w (.int .i64 T) (.int .i64 S) (.int .i64 L) (.int .u64 G) 24
  go_enter Tryz.func111, Tryz.ntmps111
  go_wp2_with fail
  refine (Head_any T S L G k _).mono ?_
  rintro e w' ⟨rfl, hb⟩
  go_wp2
  go_ret
  exact ⟨ret_i64 (next_zero T L k).symm, (box_below _ _).trans (hb.mono (by simp))⟩
theorem Next_some (T S L G s k : Int) (h : ¬ s = 0) (w : World) : Calls Tryz.prog 111 #[.agg #[.int .i64 T, .int .i64 S, .int .i64 L, .int .u64 G], .int .i64 s, .int .i64 k] w fun e w' => e = .returned (.int .i64 (nextI T L s k)) ∧ Below w.heap.size w w' := by
  obtain ⟨c_0, c_1, c_2, c_3⟩ := box4 w (.int .i64 T) (.int .i64 S) (.int .i64 L) (.int .u64 G) 24
  have h0 : (s == 0) = false := by simpa using h
  go_enter Tryz.func111, Tryz.ntmps111
  go_wp2_with fail
  refine (Slot_any T S L G s (wrap64 (6 + k)) _).mono ?_
  rintro e w' ⟨rfl, hb⟩
  go_wp2
  go_ret
  exact ⟨ret_i64 ((at_wrap T L s (6 + k)).trans (next_some h).symm), (box_below _ _).trans (hb.mono (by simp))⟩
theorem Next_any (T S L G s k : Int) (w : World) : Calls Tryz.prog 111 #[.agg #[.int .i64 T, .int .i64 S, .int .i64 L, .int .u64 G], .int .i64 s, .int .i64 k] w fun e w' => e = .returned (.int .i64 (nextI T L s k)) ∧ Below w.heap.size w w' := by
  by_cases h : s = 0
  · subst h; exact Next_zero T S L G k w
  · exact Next_some T S L G s k h w
end Go.Proofs.YtlagghghbpbcbaaGreatDoor.PlanRef
