/- The document's answers for layer 7 (package sundialref07), held to the same plain arithmetic. -/
import Derived.Test.YtghinmjebkpjhaaDoorCellsRef
import Derived.Test.YtghinmjebkpjhaaDoorDeedFits
import Derived.Test.YtghinmjebkpjhaaDoorDigits
namespace Go.Proofs.YtghinmjebkpjhaaDoor.DeedRef
open Go.ChangeShapes Go.WideShapes Go.RowKit CM DM Lay Ints Cells Str
open SM (decI)

theorem does_past {w w1 : World} {A : Option Addr} {n : Nat} {f : Int} {l : List Int} {o : Obj} {e : Ending} (h : CellsRef.Does (w.alloc o) A n f l e w1) : CellsRef.Does w A n f l e w1 := by
  obtain ⟨A', c', he, hr, ha, hb⟩ := h
  have h0 : Below w.heap.size w (w.alloc o) := (Below.refl _ _).alloc (Nat.le_refl _) _
  exact ⟨A', c', he, hr, fun a e => (ha a e).imp id (Nat.le_trans h0.size), h0.trans (hb.mono h0.size)⟩
theorem Do_any (A : Option Addr) (l : List Int) (n c : Nat) (x : D) (w : World) (hn : n = l.length) (hm : n ≤ 4096) (hR : Row w w.heap.size A (flat (encZ .u64) l)) :
    Calls Tryd.prog 8 #[.slice A n c, .agg #[.int .i64 x.1, .int .i64 x.2.1, .int .u64 x.2.2.1, .int .u64 x.2.2.2.1, .int .u64 x.2.2.2.2]] w (CellsRef.Does w A n (foundD l x) (nextD l x)) := by
  obtain ⟨kd, i, a, b, y⟩ := x
  simp only
  have HB := Lib.hid (show Below w.heap.size w (w.alloc (.cells #[.int .i64 kd, .int .i64 i, .int .u64 a, .int .u64 b, .int .u64 y] 33)) from (Below.refl _ _).alloc (Nat.le_refl _) _)
  have HR := Lib.hid (hR.later HB.out)
  clear hR
  by_cases hk : 1 ≤ kd ∧ kd ≤ 4
  · rw [foundD_yes (x := (kd, i, a, b, y)) hk]
    have HD := Lib.hid (CellsRef.Do_any A l n c (kd, i, a, b) _ hn hm HR.out)
    obtain ⟨k1, k4⟩ := hk
    have k1' : ¬ kd < 1 := by omega
    have k4' : ¬ 4 < kd := by omega
    unfold nextD
    simp only at HD ⊢
    generalize getI l i = f at HD ⊢
    generalize nextI l (kd, i, a, b) = l' at HD ⊢
    have HP := Lib.hid fun (e : Ending) (w1 : World) (h : CellsRef.Does (w.alloc (.cells #[.int .i64 kd, .int .i64 i, .int .u64 a, .int .u64 b, .int .u64 y] 33)) A n f l' e w1) => does_past h
    clear hn k1 k4
    go_enter Tryd.func8, Tryd.ntmps8
    go_wp2_with fail
    refine HD.out.mono ?_
    intro e w1 h
    obtain ⟨A', c', rfl, hr, ha, hb⟩ := HP.out e w1 h
    go_wp2
    go_ret2
    exact ⟨_, _, rfl, hr, ha, hb⟩
  · rw [foundD_no (x := (kd, i, a, b, y)) hk, nextD_no (x := (kd, i, a, b, y)) hk]
    by_cases h1 : kd < 1
    · clear hk hn
      go_enter Tryd.func8, Tryd.ntmps8
      go_wp2
      go_ret2
      exact ⟨_, _, rfl, HR.out, fun a h => Or.inl h, HB.out⟩
    · have h4 : 4 < kd := by omega
      clear hk hn
      go_enter Tryd.func8, Tryd.ntmps8
      go_wp2
      go_ret2
      exact ⟨_, _, rfl, HR.out, fun a h => Or.inl h, HB.out⟩
theorem After_any (v : Int) (x : D) (w : World) : Calls Tryd.prog 13 #[.int .u64 v, .agg #[.int .i64 x.1, .int .i64 x.2.1, .int .u64 x.2.2.1, .int .u64 x.2.2.2.1, .int .u64 x.2.2.2.2]] w fun e w' => e = .returned (.int .u64 (afterI v x)) ∧ Below w.heap.size w w' := by
  obtain ⟨kd, i, a, b, y⟩ := x
  simp only
  by_cases h2 : kd = 2
  · subst h2
    rw [afterI_2]
    go_enter Tryd.func13, Tryd.ntmps13
    go_wp2
    go_ret
    exact ⟨rfl, (Below.refl _ _).alloc (Nat.le_refl _) _⟩
  · by_cases h3 : kd = 3
    · subst h3
      clear h2
      rw [afterI_3]
      by_cases ha : v = a
      · subst ha
        rw [if_pos rfl]
        go_enter Tryd.func13, Tryd.ntmps13
        go_wp2
        go_ret
        exact ⟨rfl, (Below.refl _ _).alloc (Nat.le_refl _) _⟩
      · rw [if_neg ha]
        have ha2 : (v == a) = false := by simpa using ha
        go_enter Tryd.func13, Tryd.ntmps13
        go_wp2
        go_ret
        exact ⟨rfl, (Below.refl _ _).alloc (Nat.le_refl _) _⟩
    · by_cases h4 : kd = 4
      · subst h4
        clear h2 h3
        rw [afterI_4]
        go_enter Tryd.func13, Tryd.ntmps13
        go_wp2
        go_ret
        exact ⟨rfl, (Below.refl _ _).alloc (Nat.le_refl _) _⟩
      · have e : afterI v (kd, i, a, b, y) = v := by unfold afterI; rw [if_neg h2, if_neg h3, if_neg h4]
        rw [e]
        have h2' : (kd == 2) = false := by simpa using h2
        have h3' : (kd == 3) = false := by simpa using h3
        have h4' : (kd == 4) = false := by simpa using h4
        clear e h2 h3 h4
        go_enter Tryd.func13, Tryd.ntmps13
        go_wp2
        go_ret
        exact ⟨rfl, (Below.refl _ _).alloc (Nat.le_refl _) _⟩
theorem After_is {v u : Int} {x : D} (h : afterI v x = u) (w : World) : Calls Tryd.prog 13 #[.int .u64 v, .agg #[.int .i64 x.1, .int .i64 x.2.1, .int .u64 x.2.2.1, .int .u64 x.2.2.2.1, .int .u64 x.2.2.2.2]] w fun e w' => e = .returned (.int .u64 u) ∧ Below w.heap.size w w' := by
  rw [← h]
  exact After_any v x w
theorem itoa_neg {n : Int} (h : n < 0) : Lib.itoa n = [45] ++ decI (-n) := by
  unfold Lib.itoa SM.decI
  rw [if_pos h, show n.natAbs = (-n).toNat by omega]
  rfl
theorem itoa_pos {n : Int} (h : ¬ n < 0) : Lib.itoa n = decI n := by
  unfold Lib.itoa SM.decI
  rw [if_neg h]
theorem Number_any (n : Int) (n0 : -9223372036854775808 ≤ n) (n1 : n ≤ 9223372036854775807) (w : World) : Calls Tryd.prog 21 #[.int .i64 n] w fun e w' => e = .returned (.string (bs (Lib.itoa n))) ∧ Below w.heap.size w w' := by
  by_cases h : n < 0
  · have HI := Lib.hid (show Lib.itoa n = [45] ++ decI (-(n + 1) + 1) by rw [itoa_neg h, show -(n + 1) + 1 = -n by omega])
    have HD := Lib.hid (Digits.Digits_any (-(n + 1) + 1) (by omega) (by omega))
    have l1 := dec_len (-(n + 1) + 1) (by omega)
    have z : ¬ 9223372036854775807 < 1 + (bs (decI (-(n + 1) + 1))).size := by rw [bs_size]; omega
    clear l1
    go_enter Tryd.func21, Tryd.ntmps21
    go_wp2_with fail
    refine (HD.out _).mono ?_
    rintro e w' ⟨rfl, hb⟩
    go_wp2
    go_ret
    exact ⟨ret_ba (by rw [HI.out, ← bs_append]; rfl), hb⟩
  · have HI := Lib.hid (itoa_pos h)
    have HD := Lib.hid (Digits.Digits_any n (by omega) (by omega))
    go_enter Tryd.func21, Tryd.ntmps21
    go_wp2_with fail
    refine (HD.out _).mono ?_
    rintro e w' ⟨rfl, hb⟩
    go_wp2
    go_ret
    exact ⟨ret_ba (by rw [HI.out]), hb⟩
/-- The lengths of what a text is made of. -/
theorem itoa_size (i : Int) (h0 : -9223372036854775808 ≤ i) (h1 : i ≤ 9223372036854775807) : (bs (Lib.itoa i)).size ≤ 21 := by rw [bs_size]; exact Lib.itoa_length_le i h0 h1
theorem dec_size (u : Int) (h : u < 18446744073709551616) : (bs (decI u)).size ≤ 20 := by rw [bs_size]; exact dec_len u h
theorem Text_two (i a b y : Int) (hF : Fits (2, i, a, b, y)) (w : World) : Calls Tryd.prog 16 #[.agg #[.int .i64 2, .int .i64 i, .int .u64 a, .int .u64 b, .int .u64 y]] w fun e w' => e = .returned (.string (bs (lineL [115, 116, 111, 114, 101] i [a] y))) ∧ Below w.heap.size w w' := by
  obtain ⟨⟨i0, i1⟩, ⟨a0, a1⟩, ⟨b0, b1⟩, y0, y1⟩ := hF
  simp only at i0 i1 a0 a1 b0 b1 y0 y1
  have HA := Lib.hid (Digits.Digits_any a a0 a1)
  have HN := Lib.hid (Number_any i i0 i1)
  have HB := Lib.hid (show Below w.heap.size w (w.alloc (.cells #[.int .i64 2, .int .i64 i, .int .u64 a, .int .u64 b, .int .u64 y] 33)) from (Below.refl _ _).alloc (Nat.le_refl _) _)
  have sa := dec_size a a1
  have sn := itoa_size i i0 i1
  have q1 : ¬ 9223372036854775807 < 1 + (bs (decI a)).size := by omega
  have q2 : ¬ 9223372036854775807 < 6 + (bs (Lib.itoa i)).size := by omega
  have q3 : ¬ 9223372036854775807 < 6 + (bs (Lib.itoa i)).size + (1 + (bs (decI a)).size) := by omega
  by_cases hy : y = 0
  · have E := Lib.hid (show bs [115, 116, 111, 114, 101, 32] ++ bs (Lib.itoa i) ++ (bs [32] ++ bs (decI a)) = bs (lineL [115, 116, 111, 114, 101] i [a] y) by rw [line_is]; simp only [bs_append]; simp [endL, hy])
    subst hy
    clear sa sn i0 i1 a0 a1 b0 b1 y0 y1
    go_enter Tryd.func16, Tryd.ntmps16
    go_wp2_with fail
    refine (HA.out _).mono ?_
    rintro e w' ⟨rfl, h1⟩
    simp only [World.size_alloc] at h1
    have c0 := box_cell h1 0
    have c1 := box_cell h1 1
    have c4 := box_cell h1 4
    simp at c0 c1 c4
    go_wp2_with fail
    refine (HN.out _).mono ?_
    rintro e w' ⟨rfl, h2⟩
    have d4 := cell_later h2 c4
    go_wp2
    go_ret
    exact ⟨ret_ba E.out, (below_past h1).trans (h2.mono (below_past h1).size)⟩
  · have E := Lib.hid (show bs [115, 116, 111, 114, 101, 32] ++ bs (Lib.itoa i) ++ (bs [32] ++ bs (decI a)) ++ bs [32, 98, 121, 32] ++ bs (decI y) = bs (lineL [115, 116, 111, 114, 101] i [a] y) by rw [line_is]; simp only [bs_append]; simp [endL, hy])
    have hy2 : (y != 0) = true := by simpa using hy
    have HY := Lib.hid (Digits.Digits_any y y0 y1)
    have sy := dec_size y y1
    have q4 : ¬ 9223372036854775807 < 6 + (bs (Lib.itoa i)).size + (1 + (bs (decI a)).size) + 4 := by omega
    have q5 : ¬ 9223372036854775807 < 6 + (bs (Lib.itoa i)).size + (1 + (bs (decI a)).size) + 4 + (bs (decI y)).size := by omega
    clear hy sa sn sy i0 i1 a0 a1 b0 b1 y0 y1
    go_enter Tryd.func16, Tryd.ntmps16
    go_wp2_with fail
    refine (HA.out _).mono ?_
    rintro e w' ⟨rfl, h1⟩
    simp only [World.size_alloc] at h1
    have c0 := box_cell h1 0
    have c1 := box_cell h1 1
    have c4 := box_cell h1 4
    simp at c0 c1 c4
    go_wp2_with fail
    refine (HN.out _).mono ?_
    rintro e w' ⟨rfl, h2⟩
    have d4 := cell_later h2 c4
    go_wp2_with fail
    refine (HY.out _).mono ?_
    rintro e w' ⟨rfl, h3⟩
    go_wp2
    go_ret
    exact ⟨ret_ba E.out, ((below_past h1).trans (h2.mono (below_past h1).size)).trans (h3.mono ((below_past h1).trans (h2.mono (below_past h1).size)).size)⟩
theorem Text_four (i a b y : Int) (hF : Fits (4, i, a, b, y)) (w : World) : Calls Tryd.prog 16 #[.agg #[.int .i64 4, .int .i64 i, .int .u64 a, .int .u64 b, .int .u64 y]] w fun e w' => e = .returned (.string (bs (lineL [97, 100, 100] i [a] y))) ∧ Below w.heap.size w w' := by
  obtain ⟨⟨i0, i1⟩, ⟨a0, a1⟩, ⟨b0, b1⟩, y0, y1⟩ := hF
  simp only at i0 i1 a0 a1 b0 b1 y0 y1
  have HA := Lib.hid (Digits.Digits_any a a0 a1)
  have HN := Lib.hid (Number_any i i0 i1)
  have HB := Lib.hid (show Below w.heap.size w (w.alloc (.cells #[.int .i64 4, .int .i64 i, .int .u64 a, .int .u64 b, .int .u64 y] 33)) from (Below.refl _ _).alloc (Nat.le_refl _) _)
  have sa := dec_size a a1
  have sn := itoa_size i i0 i1
  have q1 : ¬ 9223372036854775807 < 1 + (bs (decI a)).size := by omega
  have q2 : ¬ 9223372036854775807 < 4 + (bs (Lib.itoa i)).size := by omega
  have q3 : ¬ 9223372036854775807 < 4 + (bs (Lib.itoa i)).size + (1 + (bs (decI a)).size) := by omega
  by_cases hy : y = 0
  · have E := Lib.hid (show bs [97, 100, 100, 32] ++ bs (Lib.itoa i) ++ (bs [32] ++ bs (decI a)) = bs (lineL [97, 100, 100] i [a] y) by rw [line_is]; simp only [bs_append]; simp [endL, hy])
    subst hy
    clear sa sn i0 i1 a0 a1 b0 b1 y0 y1
    go_enter Tryd.func16, Tryd.ntmps16
    go_wp2_with fail
    refine (HA.out _).mono ?_
    rintro e w' ⟨rfl, h1⟩
    simp only [World.size_alloc] at h1
    have c0 := box_cell h1 0
    have c1 := box_cell h1 1
    have c4 := box_cell h1 4
    simp at c0 c1 c4
    go_wp2_with fail
    refine (HN.out _).mono ?_
    rintro e w' ⟨rfl, h2⟩
    have d4 := cell_later h2 c4
    go_wp2
    go_ret
    exact ⟨ret_ba E.out, (below_past h1).trans (h2.mono (below_past h1).size)⟩
  · have E := Lib.hid (show bs [97, 100, 100, 32] ++ bs (Lib.itoa i) ++ (bs [32] ++ bs (decI a)) ++ bs [32, 98, 121, 32] ++ bs (decI y) = bs (lineL [97, 100, 100] i [a] y) by rw [line_is]; simp only [bs_append]; simp [endL, hy])
    have hy2 : (y != 0) = true := by simpa using hy
    have HY := Lib.hid (Digits.Digits_any y y0 y1)
    have sy := dec_size y y1
    have q4 : ¬ 9223372036854775807 < 4 + (bs (Lib.itoa i)).size + (1 + (bs (decI a)).size) + 4 := by omega
    have q5 : ¬ 9223372036854775807 < 4 + (bs (Lib.itoa i)).size + (1 + (bs (decI a)).size) + 4 + (bs (decI y)).size := by omega
    clear hy sa sn sy i0 i1 a0 a1 b0 b1 y0 y1
    go_enter Tryd.func16, Tryd.ntmps16
    go_wp2_with fail
    refine (HA.out _).mono ?_
    rintro e w' ⟨rfl, h1⟩
    simp only [World.size_alloc] at h1
    have c0 := box_cell h1 0
    have c1 := box_cell h1 1
    have c4 := box_cell h1 4
    simp at c0 c1 c4
    go_wp2_with fail
    refine (HN.out _).mono ?_
    rintro e w' ⟨rfl, h2⟩
    have d4 := cell_later h2 c4
    go_wp2_with fail
    refine (HY.out _).mono ?_
    rintro e w' ⟨rfl, h3⟩
    go_wp2
    go_ret
    exact ⟨ret_ba E.out, ((below_past h1).trans (h2.mono (below_past h1).size)).trans (h3.mono ((below_past h1).trans (h2.mono (below_past h1).size)).size)⟩
theorem Text_one (i a b y : Int) (hF : Fits (1, i, a, b, y)) (w : World) : Calls Tryd.prog 16 #[.agg #[.int .i64 1, .int .i64 i, .int .u64 a, .int .u64 b, .int .u64 y]] w fun e w' => e = .returned (.string (bs (lineL [108, 111, 97, 100] i [] y))) ∧ Below w.heap.size w w' := by
  obtain ⟨⟨i0, i1⟩, ⟨a0, a1⟩, ⟨b0, b1⟩, y0, y1⟩ := hF
  simp only at i0 i1 a0 a1 b0 b1 y0 y1
  have HA := Lib.hid (Digits.Digits_any a a0 a1)
  have HN := Lib.hid (Number_any i i0 i1)
  have sa := dec_size a a1
  have sn := itoa_size i i0 i1
  have q1 : ¬ 9223372036854775807 < 1 + (bs (decI a)).size := by omega
  have q2 : ¬ 9223372036854775807 < 5 + (bs (Lib.itoa i)).size := by omega
  by_cases hy : y = 0
  · have E := Lib.hid (show bs [108, 111, 97, 100, 32] ++ bs (Lib.itoa i) = bs (lineL [108, 111, 97, 100] i [] y) by rw [line_is]; simp only [bs_append]; simp [endL, hy])
    subst hy
    clear sa sn i0 i1 a0 a1 b0 b1 y0 y1
    go_enter Tryd.func16, Tryd.ntmps16
    go_wp2_with fail
    refine (HA.out _).mono ?_
    rintro e w' ⟨rfl, h1⟩
    simp only [World.size_alloc] at h1
    have c0 := box_cell h1 0
    have c1 := box_cell h1 1
    have c4 := box_cell h1 4
    simp at c0 c1 c4
    go_wp2_with fail
    refine (HN.out _).mono ?_
    rintro e w' ⟨rfl, h2⟩
    have d4 := cell_later h2 c4
    go_wp2
    go_ret
    exact ⟨ret_ba E.out, (below_past h1).trans (h2.mono (below_past h1).size)⟩
  · have E := Lib.hid (show bs [108, 111, 97, 100, 32] ++ bs (Lib.itoa i) ++ bs [32, 98, 121, 32] ++ bs (decI y) = bs (lineL [108, 111, 97, 100] i [] y) by rw [line_is]; simp only [bs_append]; simp [endL, hy])
    have hy2 : (y != 0) = true := by simpa using hy
    have HY := Lib.hid (Digits.Digits_any y y0 y1)
    have sy := dec_size y y1
    have q4 : ¬ 9223372036854775807 < 5 + (bs (Lib.itoa i)).size + 4 := by omega
    have q5 : ¬ 9223372036854775807 < 5 + (bs (Lib.itoa i)).size + 4 + (bs (decI y)).size := by omega
    clear hy sa sn sy i0 i1 a0 a1 b0 b1 y0 y1
    go_enter Tryd.func16, Tryd.ntmps16
    go_wp2_with fail
    refine (HA.out _).mono ?_
    rintro e w' ⟨rfl, h1⟩
    simp only [World.size_alloc] at h1
    have c0 := box_cell h1 0
    have c1 := box_cell h1 1
    have c4 := box_cell h1 4
    simp at c0 c1 c4
    go_wp2_with fail
    refine (HN.out _).mono ?_
    rintro e w' ⟨rfl, h2⟩
    have d4 := cell_later h2 c4
    go_wp2_with fail
    refine (HY.out _).mono ?_
    rintro e w' ⟨rfl, h3⟩
    go_wp2
    go_ret
    exact ⟨ret_ba E.out, ((below_past h1).trans (h2.mono (below_past h1).size)).trans (h3.mono ((below_past h1).trans (h2.mono (below_past h1).size)).size)⟩

theorem Text_three (i a b y : Int) (hF : Fits (3, i, a, b, y)) (w : World) : Calls Tryd.prog 16 #[.agg #[.int .i64 3, .int .i64 i, .int .u64 a, .int .u64 b, .int .u64 y]] w fun e w' => e = .returned (.string (bs (lineL [115, 119, 97, 112] i [a, b] y))) ∧ Below w.heap.size w w' := by
  obtain ⟨⟨i0, i1⟩, ⟨a0, a1⟩, ⟨b0, b1⟩, y0, y1⟩ := hF
  simp only at i0 i1 a0 a1 b0 b1 y0 y1
  have HA := Lib.hid (Digits.Digits_any a a0 a1)
  have HB := Lib.hid (Digits.Digits_any b b0 b1)
  have HN := Lib.hid (Number_any i i0 i1)
  have sa := dec_size a a1
  have sb := dec_size b b1
  have sn := itoa_size i i0 i1
  have q1 : ¬ 9223372036854775807 < 1 + (bs (decI a)).size := by omega
  have q2 : ¬ 9223372036854775807 < 5 + (bs (Lib.itoa i)).size := by omega
  have q3 : ¬ 9223372036854775807 < 5 + (bs (Lib.itoa i)).size + (1 + (bs (decI a)).size) := by omega
  have q6 : ¬ 9223372036854775807 < 5 + (bs (Lib.itoa i)).size + (1 + (bs (decI a)).size) + 1 := by omega
  have q7 : ¬ 9223372036854775807 < 5 + (bs (Lib.itoa i)).size + (1 + (bs (decI a)).size) + 1 + (bs (decI b)).size := by omega
  by_cases hy : y = 0
  · have E := Lib.hid (show bs [115, 119, 97, 112, 32] ++ bs (Lib.itoa i) ++ (bs [32] ++ bs (decI a)) ++ bs [32] ++ bs (decI b) = bs (lineL [115, 119, 97, 112] i [a, b] y) by rw [line_is]; simp only [bs_append]; simp [endL, hy])
    subst hy
    clear sa sn sb i0 i1 a0 a1 b0 b1 y0 y1
    go_enter Tryd.func16, Tryd.ntmps16
    go_wp2_with fail
    refine (HA.out _).mono ?_
    rintro e w' ⟨rfl, h1⟩
    simp only [World.size_alloc] at h1
    have c0 := box_cell h1 0
    have c1 := box_cell h1 1
    have c3 := box_cell h1 3
    have c4 := box_cell h1 4
    simp at c0 c1 c3 c4
    have C1 := fun p : After w' => p.cell c1
    have C3 := fun p : After w' => p.cell c3
    go_wp2
    refine wp_region_after mixed (by kernel_rfl) ?_
    repeat (first | go_big_quiet_step ((first | (with_reducible exact calls_after (HN.out _)) | exact calls_after (HB.out _))) | quiet_step ((first | (with_reducible exact calls_after (HN.out _)) | exact calls_after (HB.out _))))
    refine wpQuiet_nil ?_
    intro _ hw'
    obtain ⟨pq, hw''⟩ := hw'
    subst hw''
    have d4 := pq.cell c4
    have hq := pq.ok
    generalize pq.x = wq at d4 hq ⊢
    go_wp2
    go_ret
    exact ⟨ret_ba E.out, (below_past h1).trans (hq.mono (below_past h1).size)⟩
  · have E := Lib.hid (show bs [115, 119, 97, 112, 32] ++ bs (Lib.itoa i) ++ (bs [32] ++ bs (decI a)) ++ bs [32] ++ bs (decI b) ++ bs [32, 98, 121, 32] ++ bs (decI y) = bs (lineL [115, 119, 97, 112] i [a, b] y) by rw [line_is]; simp only [bs_append]; simp [endL, hy])
    have hy2 : (y != 0) = true := by simpa using hy
    have HY := Lib.hid (Digits.Digits_any y y0 y1)
    have sy := dec_size y y1
    have q4 : ¬ 9223372036854775807 < 5 + (bs (Lib.itoa i)).size + (1 + (bs (decI a)).size) + 1 + (bs (decI b)).size + 4 := by omega
    have q5 : ¬ 9223372036854775807 < 5 + (bs (Lib.itoa i)).size + (1 + (bs (decI a)).size) + 1 + (bs (decI b)).size + 4 + (bs (decI y)).size := by omega
    clear hy sa sn sb sy i0 i1 a0 a1 b0 b1 y0 y1
    go_enter Tryd.func16, Tryd.ntmps16
    go_wp2_with fail
    refine (HA.out _).mono ?_
    rintro e w' ⟨rfl, h1⟩
    simp only [World.size_alloc] at h1
    have c0 := box_cell h1 0
    have c1 := box_cell h1 1
    have c3 := box_cell h1 3
    have c4 := box_cell h1 4
    simp at c0 c1 c3 c4
    have C1 := fun p : After w' => p.cell c1
    have C3 := fun p : After w' => p.cell c3
    go_wp2
    refine wp_region_after mixed (by kernel_rfl) ?_
    repeat (first | go_big_quiet_step ((first | (with_reducible exact calls_after (HN.out _)) | exact calls_after (HB.out _))) | quiet_step ((first | (with_reducible exact calls_after (HN.out _)) | exact calls_after (HB.out _))))
    refine wpQuiet_nil ?_
    intro _ hw'
    obtain ⟨pq, hw''⟩ := hw'
    subst hw''
    have d4 := pq.cell c4
    have hq := pq.ok
    generalize pq.x = wq at d4 hq ⊢
    go_wp2_with fail
    refine (HY.out _).mono ?_
    rintro e w' ⟨rfl, h3⟩
    go_wp2
    go_ret
    exact ⟨ret_ba E.out, ((below_past h1).trans (hq.mono (below_past h1).size)).trans (h3.mono ((below_past h1).trans (hq.mono (below_past h1).size)).size)⟩

theorem Text_none (kd i a b y : Int) (hF : Fits (kd, i, a, b, y)) (hk : ¬ (1 ≤ kd ∧ kd ≤ 4)) (w : World) : Calls Tryd.prog 16 #[.agg #[.int .i64 kd, .int .i64 i, .int .u64 a, .int .u64 b, .int .u64 y]] w fun e w' => e = .returned (.string (bs [110, 111, 110, 101])) ∧ Below w.heap.size w w' := by
  obtain ⟨⟨i0, i1⟩, ⟨a0, a1⟩, ⟨b0, b1⟩, y0, y1⟩ := hF
  simp only at i0 i1 a0 a1 b0 b1 y0 y1
  have HA := Lib.hid (Digits.Digits_any a a0 a1)
  have sa := dec_size a a1
  have q1 : ¬ 9223372036854775807 < 1 + (bs (decI a)).size := by omega
  have n1 : (kd == 1) = false := by simp; omega
  have n2 : (kd == 2) = false := by simp; omega
  have n3 : (kd == 3) = false := by simp; omega
  have n4 : (kd == 4) = false := by simp; omega
  clear sa i0 i1 a0 a1 b0 b1 y0 y1 hk
  go_enter Tryd.func16, Tryd.ntmps16
  go_wp2_with fail
  refine (HA.out _).mono ?_
  rintro e w' ⟨rfl, h1⟩
  simp only [World.size_alloc] at h1
  have c0 := box_cell h1 0
  simp at c0
  go_wp2
  go_ret
  exact ⟨rfl, below_past h1⟩

theorem Text_any (x : D) (hF : Fits x) (w : World) : Calls Tryd.prog 16 #[.agg #[.int .i64 x.1, .int .i64 x.2.1, .int .u64 x.2.2.1, .int .u64 x.2.2.2.1, .int .u64 x.2.2.2.2]] w fun e w' => e = .returned (.string (bs (textI x))) ∧ Below w.heap.size w w' := by
  obtain ⟨kd, i, a, b, y⟩ := x
  simp only
  by_cases hk : 1 ≤ kd ∧ kd ≤ 4
  · rcases (show kd = 1 ∨ kd = 2 ∨ kd = 3 ∨ kd = 4 by omega) with rfl | rfl | rfl | rfl
    · rw [textI_1]; exact Text_one i a b y hF w
    · rw [textI_2]; exact Text_two i a b y hF w
    · rw [textI_3]; exact Text_three i a b y hF w
    · rw [textI_4]; exact Text_four i a b y hF w
  · rw [textI_no (x := (kd, i, a, b, y)) hk]
    exact Text_none kd i a b y hF hk w
end Go.Proofs.YtghinmjebkpjhaaDoor.DeedRef
