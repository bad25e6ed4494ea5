/- The texts of spots, by package place; what lay in memory ahead stays as it was. -/
import Derived.Test.YtjmkbcdolkgcgaaDoorPlaceNum
import Derived.Test.YtjmkbcdolkgcgaaDoorPlaceTextMath
import Derived.Test.YtjmkbcdolkgcgaaDoorPlaceWhat
namespace Go.Proofs.YtjmkbcdolkgcgaaDoor.PlaceText
open Go.ChangeShapes Go.WideShapes Go.ChangeAt Go.RowKit PM Lay Str Fmt Num
open Go.Proofs.YtjmkbcdolkgcgaaDoor.Place (spotV)
set_option linter.unusedVariables false

theorem mixed : Tryd.prog.follows .mixedOrders = true := by kernel_rfl
/-- The table of the kinds' names holds what its initialiser lays. -/
def Names (w : World) : Prop := w.var? Tryd.prog "sundial/place.names" = some (namesL.map fun l => Value.string (bs l)).toArray
theorem Names.later {w w' : World} (h : Names w) (hb : Below w.heap.size w w') : Names w' := Frame.var_later h hb
theorem gNames : Tryd.prog.globalNamed "sundial/place.names" = some 0 := by kernel_rfl
theorem Names.cell {w : World} (h : Names w) (i : Nat) (hi : i < 16) : w.cell? ⟨0, i, none⟩ = some (.string (bs (nameL i))) := by
  have := World.var?_cell gNames h i
  rw [this]
  have e := names_at i hi
  simp [List.getElem?_map, e]
theorem called_any (k : Int) (w : World) (hW : Names w) : Calls Tryd.prog 22 #[.int .i64 k] w fun e w' => e = .returned (.string (bs (nameL k))) ∧ w = w' := by
  by_cases h0 : k < 0
  · have HE := Lib.hid (show bs (nameL 0) = bs (nameL k) by rw [name_low h0]; rfl)
    have hc := hW.cell 0 (by decide)
    have i0 : (k < 0) = True := by simpa using h0
    clear hW
    go_enter Tryd.func22, Tryd.ntmps22
    go_wp2
    go_ret
    exact ⟨ret_ba HE.out, rfl⟩
  · by_cases h1 : 16 ≤ k
    · have HE := Lib.hid (show bs (nameL 0) = bs (nameL k) by rw [name_high h1]; rfl)
      have hc := hW.cell 0 (by decide)
      clear hW
      go_enter Tryd.func22, Tryd.ntmps22
      go_wp2
      go_ret
      exact ⟨ret_ba HE.out, rfl⟩
    · obtain ⟨n, rfl⟩ := Int.eq_ofNat_of_zero_le (show 0 ≤ k by omega)
      have hc := hW.cell n (by omega)
      have i16 : (n : Int) < 16 := by omega
      have d0 : decide ((n : Int) < 0) = false := decide_eq_false (by omega)
      have d5 : decide ((16 : Int) ≤ (n : Int)) = false := decide_eq_false (by omega)
      clear hW h0 h1
      go_enter Tryd.func22, Tryd.ntmps22
      go_wp2
      go_ret
      exact ⟨rfl, rfl⟩
theorem spot_box (k o l : Int) (w : World) : (w.alloc (.cells #[.int .i64 k, .int .i64 o, .int .i64 l] 26)).cell? ⟨w.heap.size, 0, none⟩ = some (.int .i64 k) ∧ (w.alloc (.cells #[.int .i64 k, .int .i64 o, .int .i64 l] 26)).cell? ⟨w.heap.size, 1, none⟩ = some (.int .i64 o) ∧ (w.alloc (.cells #[.int .i64 k, .int .i64 o, .int .i64 l] 26)).cell? ⟨w.heap.size, 2, none⟩ = some (.int .i64 l) := (Place.SpotAt.new w (k, o, l)).cells.1
theorem spot_below (w : World) (ob : Obj) : Below w.heap.size w (w.alloc ob) := (Below.refl _ _).alloc (Nat.le_refl _) _
theorem spot_past {w w1 : World} {ob : Obj} (hb : Below (w.alloc ob).heap.size (w.alloc ob) w1) : Below w.heap.size w w1 := (spot_below w ob).trans (hb.mono (by simp))

theorem Text_pin (o l : Int) (hv : Fit o) (w : World) (hW : Names w) (hT : Tens w) : Calls Tryd.prog 10 #[.agg #[.int .i64 5, .int .i64 o, .int .i64 l]] w fun e w' => e = .returned (.string (bs (textS (5, o, l)))) ∧ Below w.heap.size w w' := by
  obtain ⟨c0, c1, c2⟩ := spot_box 5 o l w
  have HB := Lib.hid (spot_below w (.cells #[.int .i64 5, .int .i64 o, .int .i64 l] 26))
  have HC := Lib.hid (called_any 5 _ (hW.later HB.out))
  have HI := Lib.hid (Itoa_int hv _ (tens_later hT HB.out))
  have q := itoa_size hv
  have q1 : ¬ 9223372036854775807 < 3 + 1 + (bs (Lib.itoa o)).size := by omega
  have E := Lib.hid (show bs [112, 105, 110] ++ bs [32] ++ bs (Lib.itoa o) = bs (textS (5, o, l)) by simp only [bs_append]; rfl)
  clear q hW hT hv
  go_enter Tryd.func10, Tryd.ntmps10
  go_wp2_with fail
  refine (HC.out).mono ?_
  rintro e w' ⟨rfl, rfl⟩
  go_wp2_with fail
  refine (HI.out).mono ?_
  rintro e w' ⟨rfl, hb⟩
  go_wp2
  go_ret
  exact ⟨ret_ba E.out, spot_past hb⟩
theorem Text_sleep (o l : Int) (hv : Fit o) (w : World) (hW : Names w) (hT : Tens w) : Calls Tryd.prog 10 #[.agg #[.int .i64 6, .int .i64 o, .int .i64 l]] w fun e w' => e = .returned (.string (bs (textS (6, o, l)))) ∧ Below w.heap.size w w' := by
  obtain ⟨c0, c1, c2⟩ := spot_box 6 o l w
  have HB := Lib.hid (spot_below w (.cells #[.int .i64 6, .int .i64 o, .int .i64 l] 26))
  have HC := Lib.hid (called_any 6 _ (hW.later HB.out))
  have HI := Lib.hid (Itoa_int hv _ (tens_later hT HB.out))
  have q := itoa_size hv
  have q1 : ¬ 9223372036854775807 < 5 + 1 + (bs (Lib.itoa o)).size := by omega
  have E := Lib.hid (show bs [115, 108, 101, 101, 112] ++ bs [32] ++ bs (Lib.itoa o) = bs (textS (6, o, l)) by simp only [bs_append]; rfl)
  clear q hW hT hv
  go_enter Tryd.func10, Tryd.ntmps10
  go_wp2_with fail
  refine (HC.out).mono ?_
  rintro e w' ⟨rfl, rfl⟩
  go_wp2_with fail
  refine (HI.out).mono ?_
  rintro e w' ⟨rfl, hb⟩
  go_wp2
  go_ret
  exact ⟨ret_ba E.out, spot_past hb⟩
theorem Text_sem (o l : Int) (hv : Fit o) (w : World) (hW : Names w) (hT : Tens w) : Calls Tryd.prog 10 #[.agg #[.int .i64 7, .int .i64 o, .int .i64 l]] w fun e w' => e = .returned (.string (bs (textS (7, o, l)))) ∧ Below w.heap.size w w' := by
  obtain ⟨c0, c1, c2⟩ := spot_box 7 o l w
  have HB := Lib.hid (spot_below w (.cells #[.int .i64 7, .int .i64 o, .int .i64 l] 26))
  have HC := Lib.hid (called_any 7 _ (hW.later HB.out))
  have HI := Lib.hid (Itoa_int hv _ (tens_later hT HB.out))
  have q := itoa_size hv
  have q1 : ¬ 9223372036854775807 < 3 + 1 + (bs (Lib.itoa o)).size := by omega
  have E := Lib.hid (show bs [115, 101, 109] ++ bs [32] ++ bs (Lib.itoa o) = bs (textS (7, o, l)) by simp only [bs_append]; rfl)
  clear q hW hT hv
  go_enter Tryd.func10, Tryd.ntmps10
  go_wp2_with fail
  refine (HC.out).mono ?_
  rintro e w' ⟨rfl, rfl⟩
  go_wp2_with fail
  refine (HI.out).mono ?_
  rintro e w' ⟨rfl, hb⟩
  go_wp2
  go_ret
  exact ⟨ret_ba E.out, spot_past hb⟩
theorem Text_head (o l : Int) (hv : Fit l) (w : World) (hW : Names w) (hT : Tens w) : Calls Tryd.prog 10 #[.agg #[.int .i64 8, .int .i64 o, .int .i64 l]] w fun e w' => e = .returned (.string (bs (textS (8, o, l)))) ∧ Below w.heap.size w w' := by
  obtain ⟨c0, c1, c2⟩ := spot_box 8 o l w
  have HB := Lib.hid (spot_below w (.cells #[.int .i64 8, .int .i64 o, .int .i64 l] 26))
  have HC := Lib.hid (called_any 8 _ (hW.later HB.out))
  have HI := Lib.hid (Itoa_int hv _ (tens_later hT HB.out))
  have q := itoa_size hv
  have q1 : ¬ 9223372036854775807 < 4 + 1 + (bs (Lib.itoa l)).size := by omega
  have E := Lib.hid (show bs [104, 101, 97, 100] ++ bs [32] ++ bs (Lib.itoa l) = bs (textS (8, o, l)) by simp only [bs_append]; rfl)
  clear q hW hT hv
  go_enter Tryd.func10, Tryd.ntmps10
  go_wp2_with fail
  refine (HC.out).mono ?_
  rintro e w' ⟨rfl, rfl⟩
  go_wp2_with fail
  refine (HI.out).mono ?_
  rintro e w' ⟨rfl, hb⟩
  go_wp2
  go_ret
  exact ⟨ret_ba E.out, spot_past hb⟩
theorem Text_state (o l : Int) (hv : Fit o) (w : World) (hW : Names w) (hT : Tens w) : Calls Tryd.prog 10 #[.agg #[.int .i64 9, .int .i64 o, .int .i64 l]] w fun e w' => e = .returned (.string (bs (textS (9, o, l)))) ∧ Below w.heap.size w w' := by
  obtain ⟨c0, c1, c2⟩ := spot_box 9 o l w
  have HB := Lib.hid (spot_below w (.cells #[.int .i64 9, .int .i64 o, .int .i64 l] 26))
  have HC := Lib.hid (called_any 9 _ (hW.later HB.out))
  have HI := Lib.hid (Itoa_int hv _ (tens_later hT HB.out))
  have q := itoa_size hv
  have q1 : ¬ 9223372036854775807 < 5 + (bs (Lib.itoa o)).size := by omega
  have q2 : ¬ 9223372036854775807 < 5 + (bs (Lib.itoa o)).size + 1 := by omega
  have q3 : ¬ 9223372036854775807 < 5 + (bs (Lib.itoa o)).size + 1 + 5 := by omega
  have E := Lib.hid (show bs slotB ++ bs (Lib.itoa o) ++ bs [32] ++ bs [115, 116, 97, 116, 101] = bs (textS (9, o, l)) by simp only [bs_append]; rfl)
  clear q hW hT hv
  go_enter Tryd.func10, Tryd.ntmps10
  go_wp2_with fail
  refine (HC.out).mono ?_
  rintro e w' ⟨rfl, rfl⟩
  go_wp2_with fail
  refine (HI.out).mono ?_
  rintro e w' ⟨rfl, hb⟩
  go_wp2
  go_ret
  exact ⟨ret_ba E.out, spot_past hb⟩
theorem Text_dead (o l : Int) (hv : Fit o) (w : World) (hW : Names w) (hT : Tens w) : Calls Tryd.prog 10 #[.agg #[.int .i64 10, .int .i64 o, .int .i64 l]] w fun e w' => e = .returned (.string (bs (textS (10, o, l)))) ∧ Below w.heap.size w w' := by
  obtain ⟨c0, c1, c2⟩ := spot_box 10 o l w
  have HB := Lib.hid (spot_below w (.cells #[.int .i64 10, .int .i64 o, .int .i64 l] 26))
  have HC := Lib.hid (called_any 10 _ (hW.later HB.out))
  have HI := Lib.hid (Itoa_int hv _ (tens_later hT HB.out))
  have q := itoa_size hv
  have q1 : ¬ 9223372036854775807 < 5 + (bs (Lib.itoa o)).size := by omega
  have q2 : ¬ 9223372036854775807 < 5 + (bs (Lib.itoa o)).size + 1 := by omega
  have q3 : ¬ 9223372036854775807 < 5 + (bs (Lib.itoa o)).size + 1 + 4 := by omega
  have E := Lib.hid (show bs slotB ++ bs (Lib.itoa o) ++ bs [32] ++ bs [100, 101, 97, 100] = bs (textS (10, o, l)) by simp only [bs_append]; rfl)
  clear q hW hT hv
  go_enter Tryd.func10, Tryd.ntmps10
  go_wp2_with fail
  refine (HC.out).mono ?_
  rintro e w' ⟨rfl, rfl⟩
  go_wp2_with fail
  refine (HI.out).mono ?_
  rintro e w' ⟨rfl, hb⟩
  go_wp2
  go_ret
  exact ⟨ret_ba E.out, spot_past hb⟩
theorem Text_seq (o l : Int) (hv : Fit o) (w : World) (hW : Names w) (hT : Tens w) : Calls Tryd.prog 10 #[.agg #[.int .i64 11, .int .i64 o, .int .i64 l]] w fun e w' => e = .returned (.string (bs (textS (11, o, l)))) ∧ Below w.heap.size w w' := by
  obtain ⟨c0, c1, c2⟩ := spot_box 11 o l w
  have HB := Lib.hid (spot_below w (.cells #[.int .i64 11, .int .i64 o, .int .i64 l] 26))
  have HC := Lib.hid (called_any 11 _ (hW.later HB.out))
  have HI := Lib.hid (Itoa_int hv _ (tens_later hT HB.out))
  have q := itoa_size hv
  have q1 : ¬ 9223372036854775807 < 5 + (bs (Lib.itoa o)).size := by omega
  have q2 : ¬ 9223372036854775807 < 5 + (bs (Lib.itoa o)).size + 1 := by omega
  have q3 : ¬ 9223372036854775807 < 5 + (bs (Lib.itoa o)).size + 1 + 3 := by omega
  have E := Lib.hid (show bs slotB ++ bs (Lib.itoa o) ++ bs [32] ++ bs [115, 101, 113] = bs (textS (11, o, l)) by simp only [bs_append]; rfl)
  clear q hW hT hv
  go_enter Tryd.func10, Tryd.ntmps10
  go_wp2_with fail
  refine (HC.out).mono ?_
  rintro e w' ⟨rfl, rfl⟩
  go_wp2_with fail
  refine (HI.out).mono ?_
  rintro e w' ⟨rfl, hb⟩
  go_wp2
  go_ret
  exact ⟨ret_ba E.out, spot_past hb⟩
theorem Text_tall (o l : Int) (hv : Fit o) (w : World) (hW : Names w) (hT : Tens w) : Calls Tryd.prog 10 #[.agg #[.int .i64 12, .int .i64 o, .int .i64 l]] w fun e w' => e = .returned (.string (bs (textS (12, o, l)))) ∧ Below w.heap.size w w' := by
  obtain ⟨c0, c1, c2⟩ := spot_box 12 o l w
  have HB := Lib.hid (spot_below w (.cells #[.int .i64 12, .int .i64 o, .int .i64 l] 26))
  have HC := Lib.hid (called_any 12 _ (hW.later HB.out))
  have HI := Lib.hid (Itoa_int hv _ (tens_later hT HB.out))
  have q := itoa_size hv
  have q1 : ¬ 9223372036854775807 < 5 + (bs (Lib.itoa o)).size := by omega
  have q2 : ¬ 9223372036854775807 < 5 + (bs (Lib.itoa o)).size + 1 := by omega
  have q3 : ¬ 9223372036854775807 < 5 + (bs (Lib.itoa o)).size + 1 + 4 := by omega
  have E := Lib.hid (show bs slotB ++ bs (Lib.itoa o) ++ bs [32] ++ bs [116, 97, 108, 108] = bs (textS (12, o, l)) by simp only [bs_append]; rfl)
  clear q hW hT hv
  go_enter Tryd.func10, Tryd.ntmps10
  go_wp2_with fail
  refine (HC.out).mono ?_
  rintro e w' ⟨rfl, rfl⟩
  go_wp2_with fail
  refine (HI.out).mono ?_
  rintro e w' ⟨rfl, hb⟩
  go_wp2
  go_ret
  exact ⟨ret_ba E.out, spot_past hb⟩
theorem Text_hold (o l : Int) (hv : Fit o) (w : World) (hW : Names w) (hT : Tens w) : Calls Tryd.prog 10 #[.agg #[.int .i64 13, .int .i64 o, .int .i64 l]] w fun e w' => e = .returned (.string (bs (textS (13, o, l)))) ∧ Below w.heap.size w w' := by
  obtain ⟨c0, c1, c2⟩ := spot_box 13 o l w
  have HB := Lib.hid (spot_below w (.cells #[.int .i64 13, .int .i64 o, .int .i64 l] 26))
  have HC := Lib.hid (called_any 13 _ (hW.later HB.out))
  have HI := Lib.hid (Itoa_int hv _ (tens_later hT HB.out))
  have q := itoa_size hv
  have q1 : ¬ 9223372036854775807 < 5 + (bs (Lib.itoa o)).size := by omega
  have q2 : ¬ 9223372036854775807 < 5 + (bs (Lib.itoa o)).size + 1 := by omega
  have q3 : ¬ 9223372036854775807 < 5 + (bs (Lib.itoa o)).size + 1 + 4 := by omega
  have E := Lib.hid (show bs slotB ++ bs (Lib.itoa o) ++ bs [32] ++ bs [104, 111, 108, 100] = bs (textS (13, o, l)) by simp only [bs_append]; rfl)
  clear q hW hT hv
  go_enter Tryd.func10, Tryd.ntmps10
  go_wp2_with fail
  refine (HC.out).mono ?_
  rintro e w' ⟨rfl, rfl⟩
  go_wp2_with fail
  refine (HI.out).mono ?_
  rintro e w' ⟨rfl, hb⟩
  go_wp2
  go_ret
  exact ⟨ret_ba E.out, spot_past hb⟩
theorem Text_succ (o l : Int) (hv : Fit o) (w : World) (hW : Names w) (hT : Tens w) : Calls Tryd.prog 10 #[.agg #[.int .i64 14, .int .i64 o, .int .i64 l]] w fun e w' => e = .returned (.string (bs (textS (14, o, l)))) ∧ Below w.heap.size w w' := by
  obtain ⟨c0, c1, c2⟩ := spot_box 14 o l w
  have HB := Lib.hid (spot_below w (.cells #[.int .i64 14, .int .i64 o, .int .i64 l] 26))
  have HC := Lib.hid (called_any 14 _ (hW.later HB.out))
  have HI := Lib.hid (Itoa_int hv _ (tens_later hT HB.out))
  have q := itoa_size hv
  have q1 : ¬ 9223372036854775807 < 5 + (bs (Lib.itoa o)).size := by omega
  have q2 : ¬ 9223372036854775807 < 5 + (bs (Lib.itoa o)).size + 1 := by omega
  have q3 : ¬ 9223372036854775807 < 5 + (bs (Lib.itoa o)).size + 1 + 4 := by omega
  have E := Lib.hid (show bs slotB ++ bs (Lib.itoa o) ++ bs [32] ++ bs [115, 117, 99, 99] = bs (textS (14, o, l)) by simp only [bs_append]; rfl)
  clear q hW hT hv
  go_enter Tryd.func10, Tryd.ntmps10
  go_wp2_with fail
  refine (HC.out).mono ?_
  rintro e w' ⟨rfl, rfl⟩
  go_wp2_with fail
  refine (HI.out).mono ?_
  rintro e w' ⟨rfl, hb⟩
  go_wp2
  go_ret
  exact ⟨ret_ba E.out, spot_past hb⟩
set_option maxHeartbeats 1000000 in
theorem Text_next (o l : Int) (ho : Fit o) (hl : Fit l) (w : World) (hW : Names w) (hT : Tens w) : Calls Tryd.prog 10 #[.agg #[.int .i64 15, .int .i64 o, .int .i64 l]] w fun e w' => e = .returned (.string (bs (textS (15, o, l)))) ∧ Below w.heap.size w w' := by
  obtain ⟨c0, c1, c2⟩ := spot_box 15 o l w
  have HB := Lib.hid (spot_below w (.cells #[.int .i64 15, .int .i64 o, .int .i64 l] 26))
  have HC := Lib.hid (called_any 15 _ (hW.later HB.out))
  have HT := Lib.hid (tens_later hT HB.out)
  have HO := Lib.hid fun w => Itoa_int ho w
  have HL := Lib.hid fun w => Itoa_int hl w
  have C_1 := fun p : After (w.alloc (.cells #[.int .i64 15, .int .i64 o, .int .i64 l] 26)) => p.cell c1
  have C_2 := fun p : After (w.alloc (.cells #[.int .i64 15, .int .i64 o, .int .i64 l] 26)) => p.cell c2
  have q := itoa_size ho
  have q' := itoa_size hl
  have q1 : ¬ 9223372036854775807 < 5 + (bs (Lib.itoa o)).size := by omega
  have q2 : ¬ 9223372036854775807 < 5 + (bs (Lib.itoa o)).size + 1 := by omega
  have hn : (bs (nameL 15)).size = 4 := rfl
  have q3 : ¬ 9223372036854775807 < 5 + (bs (Lib.itoa o)).size + 1 + (bs (nameL 15)).size := by omega
  have q4 : ¬ 9223372036854775807 < 5 + (bs (Lib.itoa o)).size + 1 + (bs (nameL 15)).size + 1 := by omega
  have q5 : ¬ 9223372036854775807 < 5 + (bs (Lib.itoa o)).size + 1 + (bs (nameL 15)).size + 1 + (bs (Lib.itoa l)).size := by omega
  have E := Lib.hid (show bs slotB ++ bs (Lib.itoa o) ++ bs [32] ++ bs [110, 101, 120, 116] ++ bs [32] ++ bs (Lib.itoa l) = bs (textS (15, o, l)) by simp only [bs_append]; rfl)
  clear hn q q' hW hT ho hl c1 c2
  go_enter Tryd.func10, Tryd.ntmps10
  go_wp2_with fail
  refine (HC.out).mono ?_
  rintro e w' ⟨rfl, rfl⟩
  go_wp2
  refine wp_region_after mixed (by kernel_rfl) ?_
  repeat (first | go_big_quiet_step ((first | (with_reducible exact calls_after (HO.out _ (tens_later HT.out (After.ok _)))) | exact calls_after (HL.out _ (tens_later HT.out (After.ok _))))) | quiet_step ((first | (with_reducible exact calls_after (HO.out _ (tens_later HT.out (After.ok _)))) | exact calls_after (HL.out _ (tens_later HT.out (After.ok _))))))
  refine wpQuiet_nil ?_
  intro _ hw'
  obtain ⟨pq, hw''⟩ := hw'
  subst hw''
  go_wp2
  go_ret
  exact ⟨ret_ba E.out, spot_past pq.ok⟩
theorem Text_other (k o l : Int) (h : k < 5 ∨ 15 < k) (w : World) (hW : Names w) : Calls Tryd.prog 10 #[.agg #[.int .i64 k, .int .i64 o, .int .i64 l]] w fun e w' => e = .returned (.string (bs (textS (k, o, l)))) ∧ Below w.heap.size w w' := by
  obtain ⟨c0, c1, c2⟩ := spot_box k o l w
  have HB := Lib.hid (spot_below w (.cells #[.int .i64 k, .int .i64 o, .int .i64 l] 26))
  have HC := Lib.hid (called_any k _ (hW.later HB.out))
  have n_5 : ¬ k = 5 := by omega
  have e_5 : (k == 5) = false := by simpa using n_5
  have n_6 : ¬ k = 6 := by omega
  have e_6 : (k == 6) = false := by simpa using n_6
  have n_7 : ¬ k = 7 := by omega
  have e_7 : (k == 7) = false := by simpa using n_7
  have n_8 : ¬ k = 8 := by omega
  have e_8 : (k == 8) = false := by simpa using n_8
  have n_9 : ¬ k = 9 := by omega
  have e_9 : (k == 9) = false := by simpa using n_9
  have n_10 : ¬ k = 10 := by omega
  have e_10 : (k == 10) = false := by simpa using n_10
  have n_11 : ¬ k = 11 := by omega
  have e_11 : (k == 11) = false := by simpa using n_11
  have n_12 : ¬ k = 12 := by omega
  have e_12 : (k == 12) = false := by simpa using n_12
  have n_13 : ¬ k = 13 := by omega
  have e_13 : (k == 13) = false := by simpa using n_13
  have n_14 : ¬ k = 14 := by omega
  have e_14 : (k == 14) = false := by simpa using n_14
  have n_15 : ¬ k = 15 := by omega
  have e_15 : (k == 15) = false := by simpa using n_15
  have E := Lib.hid (text_other k o l h)
  clear hW h
  go_enter Tryd.func10, Tryd.ntmps10
  go_wp2_with fail
  refine (HC.out).mono ?_
  rintro e w' ⟨rfl, rfl⟩
  go_wp2
  go_ret
  exact ⟨ret_ba (by rw [E.out]), HB.out⟩
theorem Text_any (s : Sp) (ho : Fit s.2.1) (hl : Fit s.2.2) (w : World) (hW : Names w) (hT : Tens w) : Calls Tryd.prog 10 #[spotV s] w fun e w' => e = .returned (.string (bs (textS s))) ∧ Below w.heap.size w w' := by
  obtain ⟨k, o, l⟩ := s
  by_cases h : k < 5 ∨ 15 < k
  · exact Text_other k o l h w hW
  · rcases (show k = 5 ∨ k = 6 ∨ k = 7 ∨ k = 8 ∨ k = 9 ∨ k = 10 ∨ k = 11 ∨ k = 12 ∨ k = 13 ∨ k = 14 ∨ k = 15 by omega) with rfl | rfl | rfl | rfl | rfl | rfl | rfl | rfl | rfl | rfl | rfl
    · exact Text_pin o l ho w hW hT
    · exact Text_sleep o l ho w hW hT
    · exact Text_sem o l ho w hW hT
    · exact Text_head o l hl w hW hT
    · exact Text_state o l ho w hW hT
    · exact Text_dead o l ho w hW hT
    · exact Text_seq o l ho w hW hT
    · exact Text_tall o l ho w hW hT
    · exact Text_hold o l ho w hW hT
    · exact Text_succ o l ho w hW hT
    · exact Text_next o l ho hl w hW hT
end Go.Proofs.YtjmkbcdolkgcgaaDoor.PlaceText
