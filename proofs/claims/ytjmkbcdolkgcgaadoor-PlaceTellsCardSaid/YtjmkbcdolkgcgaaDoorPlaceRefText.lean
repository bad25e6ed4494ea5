/- The texts of spots, by the document's own answer (package sundialref09); what lay in memory ahead stays as it was. -/
import Derived.Test.YtjmkbcdolkgcgaaDoorPlaceText
namespace Go.Proofs.YtjmkbcdolkgcgaaDoor.PlaceRefText
open Go.ChangeShapes Go.WideShapes Go.ChangeAt Go.RowKit PM Lay Str Fmt Num PlaceText
open Go.Proofs.YtjmkbcdolkgcgaaDoor.Place (spotV)
set_option linter.unusedVariables false

theorem later_spot {w w1 : World} {ob : Obj} {k o l : Int} (hb : Below ((w.alloc (.cells #[.int .i64 k, .int .i64 o, .int .i64 l] 26)).alloc ob).heap.size ((w.alloc (.cells #[.int .i64 k, .int .i64 o, .int .i64 l] 26)).alloc ob) w1) :
    (w1.cell? ⟨w.heap.size, 0, none⟩ = some (.int .i64 k) ∧ w1.cell? ⟨w.heap.size, 1, none⟩ = some (.int .i64 o) ∧ w1.cell? ⟨w.heap.size, 2, none⟩ = some (.int .i64 l)) ∧ Below w.heap.size w w1 := by
  obtain ⟨c0, c1, c2⟩ := spot_box k o l w
  have h1 := (spot_below (w.alloc (.cells #[.int .i64 k, .int .i64 o, .int .i64 l] 26)) ob).trans (hb.mono (by simp))
  have c0 := cell_later h1 c0
  have c1 := cell_later h1 c1
  have c2 := cell_later h1 c2
  exact ⟨⟨c0, c1, c2⟩, (spot_below w _).trans (h1.mono (by simp))⟩
theorem Text_pin (o l : Int) (hv : Fit o) (w : World) : Calls Tryd.prog 11 #[.agg #[.int .i64 5, .int .i64 o, .int .i64 l]] w fun e w' => e = .returned (.string (bs (textS (5, o, l)))) ∧ Below w.heap.size w w' := by
  obtain ⟨c0, c1, c2⟩ := spot_box 5 o l w
  have HI := Lib.hid fun w => Number_any hv w
  have q := itoa_size hv
  have q1 : ¬ 9223372036854775807 < 4 + (bs (Lib.itoa o)).size := by omega
  have E := Lib.hid (show bs [112, 105, 110, 32] ++ bs (Lib.itoa o) = bs (textS (5, o, l)) by simp only [bs_append]; rfl)
  clear q hv
  go_enter Tryd.func11, Tryd.ntmps11
  go_wp2_with fail
  refine (HI.out _).mono ?_
  rintro e w' ⟨rfl, hb⟩
  obtain ⟨⟨d0, d1, d2⟩, hB⟩ := later_spot hb
  clear hb
  go_wp2
  go_ret
  exact ⟨ret_ba E.out, hB⟩
theorem Text_sleep (o l : Int) (hv : Fit o) (w : World) : Calls Tryd.prog 11 #[.agg #[.int .i64 6, .int .i64 o, .int .i64 l]] w fun e w' => e = .returned (.string (bs (textS (6, o, l)))) ∧ Below w.heap.size w w' := by
  obtain ⟨c0, c1, c2⟩ := spot_box 6 o l w
  have HI := Lib.hid fun w => Number_any hv w
  have q := itoa_size hv
  have q1 : ¬ 9223372036854775807 < 6 + (bs (Lib.itoa o)).size := by omega
  have E := Lib.hid (show bs [115, 108, 101, 101, 112, 32] ++ bs (Lib.itoa o) = bs (textS (6, o, l)) by simp only [bs_append]; rfl)
  clear q hv
  go_enter Tryd.func11, Tryd.ntmps11
  go_wp2_with fail
  refine (HI.out _).mono ?_
  rintro e w' ⟨rfl, hb⟩
  obtain ⟨⟨d0, d1, d2⟩, hB⟩ := later_spot hb
  clear hb
  go_wp2
  go_ret
  exact ⟨ret_ba E.out, hB⟩
theorem Text_sem (o l : Int) (hv : Fit o) (w : World) : Calls Tryd.prog 11 #[.agg #[.int .i64 7, .int .i64 o, .int .i64 l]] w fun e w' => e = .returned (.string (bs (textS (7, o, l)))) ∧ Below w.heap.size w w' := by
  obtain ⟨c0, c1, c2⟩ := spot_box 7 o l w
  have HI := Lib.hid fun w => Number_any hv w
  have q := itoa_size hv
  have q1 : ¬ 9223372036854775807 < 4 + (bs (Lib.itoa o)).size := by omega
  have E := Lib.hid (show bs [115, 101, 109, 32] ++ bs (Lib.itoa o) = bs (textS (7, o, l)) by simp only [bs_append]; rfl)
  clear q hv
  go_enter Tryd.func11, Tryd.ntmps11
  go_wp2_with fail
  refine (HI.out _).mono ?_
  rintro e w' ⟨rfl, hb⟩
  obtain ⟨⟨d0, d1, d2⟩, hB⟩ := later_spot hb
  clear hb
  go_wp2
  go_ret
  exact ⟨ret_ba E.out, hB⟩
theorem Text_head (o l : Int) (hv : Fit l) (w : World) : Calls Tryd.prog 11 #[.agg #[.int .i64 8, .int .i64 o, .int .i64 l]] w fun e w' => e = .returned (.string (bs (textS (8, o, l)))) ∧ Below w.heap.size w w' := by
  obtain ⟨c0, c1, c2⟩ := spot_box 8 o l w
  have HI := Lib.hid fun w => Number_any hv w
  have q := itoa_size hv
  have q1 : ¬ 9223372036854775807 < 5 + (bs (Lib.itoa l)).size := by omega
  have E := Lib.hid (show bs [104, 101, 97, 100, 32] ++ bs (Lib.itoa l) = bs (textS (8, o, l)) by simp only [bs_append]; rfl)
  clear q hv
  go_enter Tryd.func11, Tryd.ntmps11
  go_wp2_with fail
  refine (HI.out _).mono ?_
  rintro e w' ⟨rfl, hb⟩
  obtain ⟨⟨d0, d1, d2⟩, hB⟩ := later_spot hb
  clear hb
  go_wp2
  go_ret
  exact ⟨ret_ba E.out, hB⟩
theorem Text_state (o l : Int) (hv : Fit o) (w : World) : Calls Tryd.prog 11 #[.agg #[.int .i64 9, .int .i64 o, .int .i64 l]] w fun e w' => e = .returned (.string (bs (textS (9, o, l)))) ∧ Below w.heap.size w w' := by
  obtain ⟨c0, c1, c2⟩ := spot_box 9 o l w
  have HI := Lib.hid fun w => Number_any hv w
  have q := itoa_size hv
  have q1 : ¬ 9223372036854775807 < 5 + (bs (Lib.itoa o)).size := by omega
  have q2 : ¬ 9223372036854775807 < 5 + (bs (Lib.itoa o)).size + 1 := by omega
  have q3 : ¬ 9223372036854775807 < 5 + (bs (Lib.itoa o)).size + 1 + 5 := by omega
  have E := Lib.hid (show bs slotB ++ bs (Lib.itoa o) ++ bs [32] ++ bs [115, 116, 97, 116, 101] = bs (textS (9, o, l)) by simp only [bs_append]; rfl)
  clear q hv
  go_enter Tryd.func11, Tryd.ntmps11
  go_wp2_with fail
  refine (HI.out _).mono ?_
  rintro e w' ⟨rfl, hb⟩
  obtain ⟨⟨d0, d1, d2⟩, hB⟩ := later_spot hb
  clear hb
  go_wp2
  go_ret
  exact ⟨ret_ba E.out, hB⟩
theorem Text_dead (o l : Int) (hv : Fit o) (w : World) : Calls Tryd.prog 11 #[.agg #[.int .i64 10, .int .i64 o, .int .i64 l]] w fun e w' => e = .returned (.string (bs (textS (10, o, l)))) ∧ Below w.heap.size w w' := by
  obtain ⟨c0, c1, c2⟩ := spot_box 10 o l w
  have HI := Lib.hid fun w => Number_any hv w
  have q := itoa_size hv
  have q1 : ¬ 9223372036854775807 < 5 + (bs (Lib.itoa o)).size := by omega
  have q2 : ¬ 9223372036854775807 < 5 + (bs (Lib.itoa o)).size + 1 := by omega
  have q3 : ¬ 9223372036854775807 < 5 + (bs (Lib.itoa o)).size + 1 + 4 := by omega
  have E := Lib.hid (show bs slotB ++ bs (Lib.itoa o) ++ bs [32] ++ bs [100, 101, 97, 100] = bs (textS (10, o, l)) by simp only [bs_append]; rfl)
  clear q hv
  go_enter Tryd.func11, Tryd.ntmps11
  go_wp2_with fail
  refine (HI.out _).mono ?_
  rintro e w' ⟨rfl, hb⟩
  obtain ⟨⟨d0, d1, d2⟩, hB⟩ := later_spot hb
  clear hb
  go_wp2
  go_ret
  exact ⟨ret_ba E.out, hB⟩
theorem Text_seq (o l : Int) (hv : Fit o) (w : World) : Calls Tryd.prog 11 #[.agg #[.int .i64 11, .int .i64 o, .int .i64 l]] w fun e w' => e = .returned (.string (bs (textS (11, o, l)))) ∧ Below w.heap.size w w' := by
  obtain ⟨c0, c1, c2⟩ := spot_box 11 o l w
  have HI := Lib.hid fun w => Number_any hv w
  have q := itoa_size hv
  have q1 : ¬ 9223372036854775807 < 5 + (bs (Lib.itoa o)).size := by omega
  have q2 : ¬ 9223372036854775807 < 5 + (bs (Lib.itoa o)).size + 1 := by omega
  have q3 : ¬ 9223372036854775807 < 5 + (bs (Lib.itoa o)).size + 1 + 3 := by omega
  have E := Lib.hid (show bs slotB ++ bs (Lib.itoa o) ++ bs [32] ++ bs [115, 101, 113] = bs (textS (11, o, l)) by simp only [bs_append]; rfl)
  clear q hv
  go_enter Tryd.func11, Tryd.ntmps11
  go_wp2_with fail
  refine (HI.out _).mono ?_
  rintro e w' ⟨rfl, hb⟩
  obtain ⟨⟨d0, d1, d2⟩, hB⟩ := later_spot hb
  clear hb
  go_wp2
  go_ret
  exact ⟨ret_ba E.out, hB⟩
theorem Text_tall (o l : Int) (hv : Fit o) (w : World) : Calls Tryd.prog 11 #[.agg #[.int .i64 12, .int .i64 o, .int .i64 l]] w fun e w' => e = .returned (.string (bs (textS (12, o, l)))) ∧ Below w.heap.size w w' := by
  obtain ⟨c0, c1, c2⟩ := spot_box 12 o l w
  have HI := Lib.hid fun w => Number_any hv w
  have q := itoa_size hv
  have q1 : ¬ 9223372036854775807 < 5 + (bs (Lib.itoa o)).size := by omega
  have q2 : ¬ 9223372036854775807 < 5 + (bs (Lib.itoa o)).size + 1 := by omega
  have q3 : ¬ 9223372036854775807 < 5 + (bs (Lib.itoa o)).size + 1 + 4 := by omega
  have E := Lib.hid (show bs slotB ++ bs (Lib.itoa o) ++ bs [32] ++ bs [116, 97, 108, 108] = bs (textS (12, o, l)) by simp only [bs_append]; rfl)
  clear q hv
  go_enter Tryd.func11, Tryd.ntmps11
  go_wp2_with fail
  refine (HI.out _).mono ?_
  rintro e w' ⟨rfl, hb⟩
  obtain ⟨⟨d0, d1, d2⟩, hB⟩ := later_spot hb
  clear hb
  go_wp2
  go_ret
  exact ⟨ret_ba E.out, hB⟩
theorem Text_hold (o l : Int) (hv : Fit o) (w : World) : Calls Tryd.prog 11 #[.agg #[.int .i64 13, .int .i64 o, .int .i64 l]] w fun e w' => e = .returned (.string (bs (textS (13, o, l)))) ∧ Below w.heap.size w w' := by
  obtain ⟨c0, c1, c2⟩ := spot_box 13 o l w
  have HI := Lib.hid fun w => Number_any hv w
  have q := itoa_size hv
  have q1 : ¬ 9223372036854775807 < 5 + (bs (Lib.itoa o)).size := by omega
  have q2 : ¬ 9223372036854775807 < 5 + (bs (Lib.itoa o)).size + 1 := by omega
  have q3 : ¬ 9223372036854775807 < 5 + (bs (Lib.itoa o)).size + 1 + 4 := by omega
  have E := Lib.hid (show bs slotB ++ bs (Lib.itoa o) ++ bs [32] ++ bs [104, 111, 108, 100] = bs (textS (13, o, l)) by simp only [bs_append]; rfl)
  clear q hv
  go_enter Tryd.func11, Tryd.ntmps11
  go_wp2_with fail
  refine (HI.out _).mono ?_
  rintro e w' ⟨rfl, hb⟩
  obtain ⟨⟨d0, d1, d2⟩, hB⟩ := later_spot hb
  clear hb
  go_wp2
  go_ret
  exact ⟨ret_ba E.out, hB⟩
theorem Text_succ (o l : Int) (hv : Fit o) (w : World) : Calls Tryd.prog 11 #[.agg #[.int .i64 14, .int .i64 o, .int .i64 l]] w fun e w' => e = .returned (.string (bs (textS (14, o, l)))) ∧ Below w.heap.size w w' := by
  obtain ⟨c0, c1, c2⟩ := spot_box 14 o l w
  have HI := Lib.hid fun w => Number_any hv w
  have q := itoa_size hv
  have q1 : ¬ 9223372036854775807 < 5 + (bs (Lib.itoa o)).size := by omega
  have q2 : ¬ 9223372036854775807 < 5 + (bs (Lib.itoa o)).size + 1 := by omega
  have q3 : ¬ 9223372036854775807 < 5 + (bs (Lib.itoa o)).size + 1 + 4 := by omega
  have E := Lib.hid (show bs slotB ++ bs (Lib.itoa o) ++ bs [32] ++ bs [115, 117, 99, 99] = bs (textS (14, o, l)) by simp only [bs_append]; rfl)
  clear q hv
  go_enter Tryd.func11, Tryd.ntmps11
  go_wp2_with fail
  refine (HI.out _).mono ?_
  rintro e w' ⟨rfl, hb⟩
  obtain ⟨⟨d0, d1, d2⟩, hB⟩ := later_spot hb
  clear hb
  go_wp2
  go_ret
  exact ⟨ret_ba E.out, hB⟩
theorem Text_next (o l : Int) (ho : Fit o) (hl : Fit l) (w : World) : Calls Tryd.prog 11 #[.agg #[.int .i64 15, .int .i64 o, .int .i64 l]] w fun e w' => e = .returned (.string (bs (textS (15, o, l)))) ∧ Below w.heap.size w w' := by
  obtain ⟨c0, c1, c2⟩ := spot_box 15 o l w
  have HI := Lib.hid fun w => Number_any ho w
  have HJ := Lib.hid fun w => Number_any hl w
  have q := itoa_size ho
  have q' := itoa_size hl
  have q1 : ¬ 9223372036854775807 < 5 + (bs (Lib.itoa o)).size := by omega
  have q2 : ¬ 9223372036854775807 < 5 + (bs (Lib.itoa o)).size + 1 := by omega
  have q3 : ¬ 9223372036854775807 < 5 + (bs (Lib.itoa o)).size + 1 + 5 := by omega
  have q4 : ¬ 9223372036854775807 < 5 + (bs (Lib.itoa o)).size + 1 + 5 + (bs (Lib.itoa l)).size := by omega
  have E := Lib.hid (show bs slotB ++ bs (Lib.itoa o) ++ bs [32] ++ bs [110, 101, 120, 116, 32] ++ bs (Lib.itoa l) = bs (textS (15, o, l)) by
    have e : bs [110, 101, 120, 116, 32] = bs [110, 101, 120, 116] ++ bs [32] := rfl
    rw [e]
    simp only [bs_append, text_next]
    congr 1
    simp [nameL, namesL])
  clear q q' ho hl
  go_enter Tryd.func11, Tryd.ntmps11
  go_wp2_with fail
  refine (HI.out _).mono ?_
  rintro e w' ⟨rfl, hb⟩
  obtain ⟨⟨d0, d1, d2⟩, hB⟩ := later_spot hb
  clear hb
  go_wp2_with fail
  refine (HJ.out _).mono ?_
  rintro e w' ⟨rfl, hb2⟩
  go_wp2
  go_ret
  exact ⟨ret_ba E.out, hB.trans (hb2.mono hB.size)⟩
theorem Text_none (o l : Int) (w : World) : Calls Tryd.prog 11 #[.agg #[.int .i64 0, .int .i64 o, .int .i64 l]] w fun e w' => e = .returned (.string (bs (textS (0, o, l)))) ∧ Below w.heap.size w w' := by
  obtain ⟨c0, c1, c2⟩ := spot_box 0 o l w
  have HB := Lib.hid fun ob => (later_spot (k := 0) (o := o) (l := l) (w := w) (ob := ob) (Below.refl _ _)).2
  go_enter Tryd.func11, Tryd.ntmps11
  go_wp2
  go_ret
  exact ⟨rfl, HB.out _⟩
theorem Text_epoch (o l : Int) (w : World) : Calls Tryd.prog 11 #[.agg #[.int .i64 1, .int .i64 o, .int .i64 l]] w fun e w' => e = .returned (.string (bs (textS (1, o, l)))) ∧ Below w.heap.size w w' := by
  obtain ⟨c0, c1, c2⟩ := spot_box 1 o l w
  have HB := Lib.hid fun ob => (later_spot (k := 1) (o := o) (l := l) (w := w) (ob := ob) (Below.refl _ _)).2
  go_enter Tryd.func11, Tryd.ntmps11
  go_wp2
  go_ret
  exact ⟨rfl, HB.out _⟩
theorem Text_clock (o l : Int) (w : World) : Calls Tryd.prog 11 #[.agg #[.int .i64 2, .int .i64 o, .int .i64 l]] w fun e w' => e = .returned (.string (bs (textS (2, o, l)))) ∧ Below w.heap.size w w' := by
  obtain ⟨c0, c1, c2⟩ := spot_box 2 o l w
  have HB := Lib.hid fun ob => (later_spot (k := 2) (o := o) (l := l) (w := w) (ob := ob) (Below.refl _ _)).2
  go_enter Tryd.func11, Tryd.ntmps11
  go_wp2
  go_ret
  exact ⟨rfl, HB.out _⟩
theorem Text_serial (o l : Int) (w : World) : Calls Tryd.prog 11 #[.agg #[.int .i64 3, .int .i64 o, .int .i64 l]] w fun e w' => e = .returned (.string (bs (textS (3, o, l)))) ∧ Below w.heap.size w w' := by
  obtain ⟨c0, c1, c2⟩ := spot_box 3 o l w
  have HB := Lib.hid fun ob => (later_spot (k := 3) (o := o) (l := l) (w := w) (ob := ob) (Below.refl _ _)).2
  go_enter Tryd.func11, Tryd.ntmps11
  go_wp2
  go_ret
  exact ⟨rfl, HB.out _⟩
theorem Text_free (o l : Int) (w : World) : Calls Tryd.prog 11 #[.agg #[.int .i64 4, .int .i64 o, .int .i64 l]] w fun e w' => e = .returned (.string (bs (textS (4, o, l)))) ∧ Below w.heap.size w w' := by
  obtain ⟨c0, c1, c2⟩ := spot_box 4 o l w
  have HB := Lib.hid fun ob => (later_spot (k := 4) (o := o) (l := l) (w := w) (ob := ob) (Below.refl _ _)).2
  go_enter Tryd.func11, Tryd.ntmps11
  go_wp2
  go_ret
  exact ⟨rfl, HB.out _⟩
theorem Text_low (k o l : Int) (h : k < 0) (w : World) : Calls Tryd.prog 11 #[.agg #[.int .i64 k, .int .i64 o, .int .i64 l]] w fun e w' => e = .returned (.string (bs (textS (k, o, l)))) ∧ Below w.heap.size w w' := by
  obtain ⟨c0, c1, c2⟩ := spot_box k o l w
  have HB := Lib.hid fun ob => (later_spot (k := k) (o := o) (l := l) (w := w) (ob := ob) (Below.refl _ _)).2
  have E := Lib.hid (show textS (k, o, l) = [110, 111, 110, 101] by rw [text_other k o l (by omega), name_low h])
  go_enter Tryd.func11, Tryd.ntmps11
  go_wp2
  go_ret
  exact ⟨ret_ba (by rw [E.out]; rfl), HB.out _⟩
theorem Text_high (k o l : Int) (h : 15 < k) (w : World) : Calls Tryd.prog 11 #[.agg #[.int .i64 k, .int .i64 o, .int .i64 l]] w fun e w' => e = .returned (.string (bs (textS (k, o, l)))) ∧ Below w.heap.size w w' := by
  obtain ⟨c0, c1, c2⟩ := spot_box k o l w
  have HB := Lib.hid fun ob => (later_spot (k := k) (o := o) (l := l) (w := w) (ob := ob) (Below.refl _ _)).2
  have E := Lib.hid (show textS (k, o, l) = [110, 111, 110, 101] by rw [text_other k o l (by omega), name_high (by omega)])
  have h0 : ¬ k < 0 := by omega
  go_enter Tryd.func11, Tryd.ntmps11
  go_wp2
  go_ret
  exact ⟨ret_ba (by rw [E.out]; rfl), HB.out _⟩
theorem Text_any (s : Sp) (ho : Fit s.2.1) (hl : Fit s.2.2) (w : World) : Calls Tryd.prog 11 #[spotV s] w fun e w' => e = .returned (.string (bs (textS s))) ∧ Below w.heap.size w w' := by
  obtain ⟨k, o, l⟩ := s
  by_cases h : k < 0
  · exact Text_low k o l h w
  · by_cases h2 : 15 < k
    · exact Text_high k o l h2 w
    · rcases (show k = 0 ∨ k = 1 ∨ k = 2 ∨ k = 3 ∨ k = 4 ∨ k = 5 ∨ k = 6 ∨ k = 7 ∨ k = 8 ∨ k = 9 ∨ k = 10 ∨ k = 11 ∨ k = 12 ∨ k = 13 ∨ k = 14 ∨ k = 15 by omega) with rfl | rfl | rfl | rfl | rfl | rfl | rfl | rfl | rfl | rfl | rfl | rfl | rfl | rfl | rfl | rfl
      · exact Text_none o l w
      · exact Text_epoch o l w
      · exact Text_clock o l w
      · exact Text_serial o l w
      · exact Text_free o l w
      · exact Text_pin o l ho w
      · exact Text_sleep o l ho w
      · exact Text_sem o l ho w
      · exact Text_head o l hl w
      · exact Text_state o l ho w
      · exact Text_dead o l ho w
      · exact Text_seq o l ho w
      · exact Text_tall o l ho w
      · exact Text_hold o l ho w
      · exact Text_succ o l ho w
      · exact Text_next o l ho hl w
end Go.Proofs.YtjmkbcdolkgcgaaDoor.PlaceRefText
