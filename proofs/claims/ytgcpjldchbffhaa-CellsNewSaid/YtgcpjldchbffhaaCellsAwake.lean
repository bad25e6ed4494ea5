/- Law 06's examples and its own accesses. -/
import Derived.Test.YtgcpjldchbffhaaCellsRef
namespace Go.Proofs.Ytgcpjldchbffhaa.Law06
open Go.ChangeShapes Go.WideShapes Go.RowKit CM Lay Ints Cells

theorem box_grown (w : World) (o : Obj) (r : Option Nat) {w' : World} (h : (w.alloc o).grownBy w' r) : w.grownBy w' r := grown_trans (World.grownBy_alloc w o r) h
theorem do_any {p h n : Nat} {l : List Int} {w : World} (hM : Mem w p h n l) (x : Int × Int × Int × Int) :
    Calls Try.prog 9 #[.pointer (some ⟨p, 0, none⟩), .agg #[.int .i64 x.1, .int .i64 x.2.1, .int .u64 x.2.2.1, .int .u64 x.2.2.2]] w (Does w p h n (getI l x.2.1) (nextI l x)) := by
  obtain ⟨kd, i, a, b⟩ := x
  simp only
  have hM2 : Mem (w.alloc (.cells #[.int .i64 kd, .int .i64 i, .int .u64 a, .int .u64 b] 33)) p h n l := hM.later ((Below.refl _ _).alloc (Nat.le_refl _) _)
  have HM := Lib.hid hM2
  clear hM hM2
  unfold nextI
  simp only
  by_cases h2 : kd = 2
  · rw [if_pos h2]
    have HS := Lib.hid (Store_any HM.out i a)
    generalize getI l i = f at HS ⊢
    generalize setI l i a = l' at HS ⊢
    subst h2
    go_enter Try.func9, Try.ntmps9
    go_wp2_with fail
    refine (HS.out).mono ?_
    rintro e w' ⟨rfl, hg, hm⟩
    go_wp2
    go_ret
    exact ⟨rfl, box_grown _ _ _ hg, hm⟩
  · rw [if_neg h2]
    have h2' : (kd == 2) = false := by simpa using h2
    by_cases h3 : kd = 3
    · rw [if_pos h3]
      have HS := Lib.hid (Swap_any HM.out i a b)
      generalize getI l i = f at HS ⊢
      generalize swapI l i a b = l' at HS ⊢
      subst h3
      clear h2 h2'
      go_enter Try.func9, Try.ntmps9
      go_wp2_with fail
      refine (HS.out).mono ?_
      rintro e w' ⟨rfl, hg, hm⟩
      go_wp2
      go_ret
      exact ⟨rfl, box_grown _ _ _ hg, hm⟩
    · rw [if_neg h3]
      have h3' : (kd == 3) = false := by simpa using h3
      by_cases h4 : kd = 4
      · rw [if_pos h4]
        have HS := Lib.hid (Add_any HM.out i a)
        generalize getI l i = f at HS ⊢
        generalize addI l i a = l' at HS ⊢
        subst h4
        clear h2 h2' h3 h3'
        go_enter Try.func9, Try.ntmps9
        go_wp2_with fail
        refine (HS.out).mono ?_
        rintro e w' ⟨rfl, hg, hm⟩
        go_wp2
        go_ret
        exact ⟨rfl, box_grown _ _ _ hg, hm⟩
      · rw [if_neg h4]
        have h4' : (kd == 4) = false := by simpa using h4
        have HS := Lib.hid (Load_any HM.out i)
        generalize getI l i = f at HS ⊢
        clear h2 h3 h4
        go_enter Try.func9, Try.ntmps9
        go_wp2_with fail
        refine (HS.out).mono ?_
        rintro e w' ⟨rfl, rfl⟩
        go_wp2
        go_ret
        exact ⟨rfl, box_grown _ _ _ (grown_refl _ _), HM.out⟩
theorem do_nil (x : Int × Int × Int × Int) (w : World) :
    Calls Try.prog 9 #[.pointer none, .agg #[.int .i64 x.1, .int .i64 x.2.1, .int .u64 x.2.2.1, .int .u64 x.2.2.2]] w fun e w' => e = .returned (.int .u64 0) ∧ Below w.heap.size w w' := by
  obtain ⟨kd, i, a, b⟩ := x
  simp only
  have HB := Lib.hid (show Below w.heap.size w (w.alloc (.cells #[.int .i64 kd, .int .i64 i, .int .u64 a, .int .u64 b] 33)) from (Below.refl _ _).alloc (Nat.le_refl _) _)
  by_cases h2 : kd = 2
  · subst h2
    go_enter Try.func9, Try.ntmps9
    go_wp2_with fail
    refine (Store_nil i a _).mono ?_
    rintro e w' ⟨rfl, rfl⟩
    go_wp2
    go_ret
    exact ⟨rfl, HB.out⟩
  · have h2' : (kd == 2) = false := by simpa using h2
    by_cases h3 : kd = 3
    · subst h3
      clear h2 h2'
      go_enter Try.func9, Try.ntmps9
      go_wp2_with fail
      refine (Swap_nil i a b _).mono ?_
      rintro e w' ⟨rfl, rfl⟩
      go_wp2
      go_ret
      exact ⟨rfl, HB.out⟩
    · have h3' : (kd == 3) = false := by simpa using h3
      by_cases h4 : kd = 4
      · subst h4
        clear h2 h2' h3 h3'
        go_enter Try.func9, Try.ntmps9
        go_wp2_with fail
        refine (Add_nil i a _).mono ?_
        rintro e w' ⟨rfl, rfl⟩
        go_wp2
        go_ret
        exact ⟨rfl, HB.out⟩
      · have h4' : (kd == 4) = false := by simpa using h4
        clear h2 h3 h4
        go_enter Try.func9, Try.ntmps9
        go_wp2_with fail
        refine (Load_nil i _).mono ?_
        rintro e w' ⟨rfl, rfl⟩
        go_wp2
        go_ret
        exact ⟨rfl, HB.out⟩

theorem flat56 (a b : Int) : flat (encZ .u64) [a, b] = (#[Value.int .u64 a, Value.int .u64 b] : Array Value).toList := by rw [flat_ints]; rfl
theorem swap_is {p h n : Nat} {l l' : List Int} {f : Int} {w : World} (hM : Mem w p h n l) (i a v : Int) (hf : getI l i = f) (hs : swapI l i a v = l') : Calls Try.prog 17 #[.pointer (some ⟨p, 0, none⟩), .int .i64 i, .int .u64 a, .int .u64 v] w (Does w p h n f l') := by
  rw [← hf, ← hs]
  exact Swap_any hM i a v
theorem add_is {p h n : Nat} {l l' : List Int} {f : Int} {w : World} (hM : Mem w p h n l) (i a : Int) (hf : getI l i = f) (hs : addI l i a = l') : Calls Try.prog 18 #[.pointer (some ⟨p, 0, none⟩), .int .i64 i, .int .u64 a] w (Does w p h n f l') := by
  rw [← hf, ← hs]
  exact Add_any hM i a
set_option maxHeartbeats 400000 in
theorem awake_any (w : World) : Calls Try.prog 6 #[] w fun e w' => e = .returned (.bool true) ∧ Below w.heap.size w w' := by
  have F1 := Lib.hid (show getI [5, 6] 0 = 5 by decide)
  have S1 := Lib.hid (show swapI [5, 6] 0 5 7 = [7, 6] by decide)
  have F2 := Lib.hid (show getI [7, 6] 0 = 7 by decide)
  have S2 := Lib.hid (show swapI [7, 6] 0 5 8 = [7, 6] by decide)
  have F3 := Lib.hid (show getI [7, 6] 1 = 6 by decide)
  have S3 := Lib.hid (show addI [7, 6] 1 18446744073709551615 = [7, 5] by decide)
  have R0 := row_new w #[.int .u64 5, .int .u64 6] 29
  rw [← flat56] at R0
  have HR := Lib.hid R0
  have HB0 := Lib.hid (show Below w.heap.size w (w.alloc (.cells #[.int .u64 5, .int .u64 6] 29)) from (Below.refl _ _).alloc (Nat.le_refl _) _)
  clear R0
  go_enter Try.func6, Try.ntmps6
  go_wp2_with fail
  refine (Of_any HR.out rfl (by decide)).mono ?_
  rintro e w1 ⟨p, h, rfl, m1, p1, h1, b1⟩
  have M1 := Lib.hid m1
  have B1 := Lib.hid (HB0.out.trans (b1.mono HB0.out.size))
  have hp := Nat.le_trans HB0.out.size p1
  have hh := Nat.le_trans HB0.out.size h1
  clear m1 b1 p1 h1
  go_wp2_with fail
  refine (swap_is M1.out 0 5 7 F1.out S1.out).mono ?_
  rintro e w2 ⟨rfl, g2, m2⟩
  have M2 := Lib.hid m2
  have B2 := Lib.hid (below_of_grown B1.out g2 B1.out.size hh)
  clear m2 g2
  go_wp2_with fail
  refine (swap_is M2.out 0 5 8 F2.out S2.out).mono ?_
  rintro e w3 ⟨rfl, g3, m3⟩
  have M3 := Lib.hid m3
  have B3 := Lib.hid (below_of_grown B2.out g3 B2.out.size hh)
  clear m3 g3
  go_wp2_with fail
  refine (add_is M3.out 1 18446744073709551615 F3.out S3.out).mono ?_
  rintro e w4 ⟨rfl, g4, m4⟩
  have M4 := Lib.hid m4
  have B4 := Lib.hid (below_of_grown B3.out g4 B3.out.size hh)
  clear m4 g4
  go_wp2_with fail
  refine (Words_any M4.out).mono ?_
  rintro e w5 ⟨rfl, o5, b5⟩
  have R5 := Lib.hid (Row.of_own o5)
  have HB5 := Lib.hid (B4.out.trans (b5.mono B4.out.size))
  clear o5 b5
  have R6 := row_new w5 #[.int .u64 7, .int .u64 5] 29
  rw [← flat56] at R6
  have HR6 := Lib.hid R6
  have HB6 := Lib.hid (show Below w5.heap.size w5 (w5.alloc (.cells #[.int .u64 7, .int .u64 5] 29)) from (Below.refl _ _).alloc (Nat.le_refl _) _)
  clear R6
  go_wp2_with fail
  refine (CellsRef.Same_yes (l := [7, 5]) rfl rfl (R5.out.later HB6.out) HR6.out (by decide)).mono ?_
  rintro e w6 ⟨rfl, b6⟩
  have HB7 := Lib.hid ((HB5.out.trans (HB6.out.mono HB5.out.size)).trans (b6.mono (HB5.out.trans (HB6.out.mono HB5.out.size)).size))
  clear b6
  go_wp2
  go_ret
  exact ⟨rfl, HB7.out⟩
end Go.Proofs.Ytgcpjldchbffhaa.Law06
