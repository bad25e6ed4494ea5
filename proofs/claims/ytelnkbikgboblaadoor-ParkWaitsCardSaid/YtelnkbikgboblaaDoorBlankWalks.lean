/- The functions of package blank (layer 10), held to plain lists: the memory at the beginning, and the free slots that a memory's words tell. -/
import Derived.Test.YtelnkbikgboblaaDoorPlanWalks
import Derived.Test.YtelnkbikgboblaaDoorCellsWalks
import Derived.Test.YtelnkbikgboblaaDoorStateWalks
import Derived.Test.YtelnkbikgboblaaDoorDrawRef
import Derived.Test.YtelnkbikgboblaaDoorBlankMath
import Derived.WalkMore
namespace Go.Proofs.YtelnkbikgboblaaDoor.Blank
set_option maxRecDepth 20000
open Go.ChangeShapes Go.WideShapes Go.RowKit PM CM SM BM Lay Ints Plan
open Go.Proofs.YtelnkbikgboblaaDoor.Cells (Mem grown_below grown_trans grown_refl Makes row_grown below_of_grown Store_any Load_any New_any)
set_option linter.unusedVariables false

/-- The four cells of a boxed plan, held. -/
def PlanBox (b : Nat) (T S L G : Int) (w : World) : Prop := w.cell? ⟨b, 0, none⟩ = some (.int .i64 T) ∧ w.cell? ⟨b, 1, none⟩ = some (.int .i64 S) ∧ w.cell? ⟨b, 2, none⟩ = some (.int .i64 L) ∧ w.cell? ⟨b, 3, none⟩ = some (.int .u64 G)
theorem PlanBox.grown {b : Nat} {T S L G : Int} {w w' : World} {r : Option Nat} (h : PlanBox b T S L G w) (hg : w.grownBy w' r) (hr : some b ≠ r) : PlanBox b T S L G w' :=
  ⟨hg.cell h.1 hr, hg.cell h.2.1 hr, hg.cell h.2.2.1 hr, hg.cell h.2.2.2 hr⟩
theorem PlanBox.later {b : Nat} {T S L G : Int} {w w' : World} (h : PlanBox b T S L G w) (hb : Below w.heap.size w w') : PlanBox b T S L G w' :=
  ⟨cell_later hb h.1, cell_later hb h.2.1, cell_later hb h.2.2.1, cell_later hb h.2.2.2⟩
theorem plan_box (w : World) (T S L G : Int) : PlanBox w.heap.size T S L G (w.alloc (.cells #[.int .i64 T, .int .i64 S, .int .i64 L, .int .u64 G] 24)) := box4 w _ _ _ _ _
theorem PlanBox.lt {b : Nat} {T S L G : Int} {w : World} (h : PlanBox b T S L G w) : b < w.heap.size := World.block_lt_of_cell? _ _ h.1

theorem layFree_more {p h n : Nat} {l : List Int} {w : World} (hM : Mem w p h n l) (T S L G i : Int) (hi : 1 ≤ i) (hS : S ≤ 64) (hiS : i ≤ S) (hG : 0 ≤ G) (hlt : i < S) :
    Calls Tryd.prog 18 #[.pointer (some ⟨p, 0, none⟩), .agg #[.int .i64 T, .int .i64 S, .int .i64 L, .int .u64 G], .int .i64 i] w fun e w' => e = .returned (.tuple #[]) ∧ w.grownBy w' (some h) ∧ Mem w' p h n (setI (setI l (atI T L i 0) (stI G 0)) (atI T L i 5) (i + 1)) := by
  have HM := Lib.hid (hM.later (box_below w (.cells #[.int .i64 T, .int .i64 S, .int .i64 L, .int .u64 G] 24)))
  have NE := Lib.hid (show some w.heap.size ≠ some h by have := hM.lt.2; simp; omega)
  obtain ⟨c_0, c_1, c_2, c_3⟩ := plan_box w T S L G
  have HB := Lib.hid (plan_box w T S L G)
  have HST := Lib.hid (State.Of_any G 0 hG)
  generalize stI G 0 = g at HST ⊢
  clear hM hG
  go_enter Tryd.func18, Tryd.ntmps18
  go_wp2
  go_region_held3 (fun w' => w'.cell? ⟨w.heap.size, 0, none⟩ = some (.int .i64 T) ∧ w'.cell? ⟨w.heap.size, 1, none⟩ = some (.int .i64 S) ∧ w'.cell? ⟨w.heap.size, 2, none⟩ = some (.int .i64 L) ∧ w'.cell? ⟨w.heap.size, 3, none⟩ = some (.int .u64 G))
    ((first | exact (HB.out.later (Below.refl _ _).drew) | exact PlanBox.grown (by assumption) (grown_refl _ _) NE.out | exact PlanBox.grown (by assumption) (by assumption) NE.out))
    (first
      | (go_at_call 29; refine (Plan.State_any T S L G i _).mono ?_; rintro e w1 ⟨rfl, hb⟩; have hg := grown_below (some h) hb)
      | (go_at_call 30; refine (HST.out _).mono ?_; rintro e w1 ⟨rfl, rfl⟩)
      | (go_at_call 7; refine (Store_any ((HM.out.later (Below.refl _ _).drew).later hb) _ _).mono ?_; rintro e w2 ⟨rfl, hg, hm⟩))
  have HM2 := Lib.hid hm
  have HG2 := Lib.hid (grown_trans (grown_below (some h) (((box_below w (.cells #[.int .i64 T, .int .i64 S, .int .i64 L, .int .u64 G] 24)).drew).trans (hb.mono (by simp)))) hg)
  have hp2 : PlanBox w.heap.size T S L G w2 := by assumption
  obtain ⟨c_0, c_1, c_2, c_3⟩ := hp2
  have HI := Lib.hid hi
  clear hm hg hb HB
  go_wp2_with fail
  refine (Plan.Succ_any T S L G i _).mono ?_
  rintro e w3 ⟨rfl, hb3⟩
  have HM3 := Lib.hid (HM2.out.later hb3)
  have HG3 := Lib.hid (grown_trans HG2.out (grown_below (some h) hb3))
  clear hb3 c_0 c_1 c_2 c_3
  go_wp2_with fail
  refine (Store_any HM3.out _ _).mono ?_
  rintro e w4 ⟨rfl, hg4, hm4⟩
  go_wp2
  refine bodyPost_end (results_none rfl _ _ _) rfl ?_
  exact ⟨rfl, grown_trans HG3.out hg4, hm4⟩
theorem layFree_last {p h n : Nat} {l : List Int} {w : World} (hM : Mem w p h n l) (T S L G i : Int) (hi : 1 ≤ i) (hS : S ≤ 64) (hiS : i ≤ S) (hG : 0 ≤ G) (hlt : ¬ i < S) :
    Calls Tryd.prog 18 #[.pointer (some ⟨p, 0, none⟩), .agg #[.int .i64 T, .int .i64 S, .int .i64 L, .int .u64 G], .int .i64 i] w fun e w' => e = .returned (.tuple #[]) ∧ w.grownBy w' (some h) ∧ Mem w' p h n (setI (setI l (atI T L i 0) (stI G 0)) (atI T L i 5) (0)) := by
  have HM := Lib.hid (hM.later (box_below w (.cells #[.int .i64 T, .int .i64 S, .int .i64 L, .int .u64 G] 24)))
  have NE := Lib.hid (show some w.heap.size ≠ some h by have := hM.lt.2; simp; omega)
  obtain ⟨c_0, c_1, c_2, c_3⟩ := plan_box w T S L G
  have HB := Lib.hid (plan_box w T S L G)
  have HST := Lib.hid (State.Of_any G 0 hG)
  generalize stI G 0 = g at HST ⊢
  clear hM hG
  go_enter Tryd.func18, Tryd.ntmps18
  go_wp2
  go_region_held3 (fun w' => w'.cell? ⟨w.heap.size, 0, none⟩ = some (.int .i64 T) ∧ w'.cell? ⟨w.heap.size, 1, none⟩ = some (.int .i64 S) ∧ w'.cell? ⟨w.heap.size, 2, none⟩ = some (.int .i64 L) ∧ w'.cell? ⟨w.heap.size, 3, none⟩ = some (.int .u64 G))
    ((first | exact (HB.out.later (Below.refl _ _).drew) | exact PlanBox.grown (by assumption) (grown_refl _ _) NE.out | exact PlanBox.grown (by assumption) (by assumption) NE.out))
    (first
      | (go_at_call 29; refine (Plan.State_any T S L G i _).mono ?_; rintro e w1 ⟨rfl, hb⟩; have hg := grown_below (some h) hb)
      | (go_at_call 30; refine (HST.out _).mono ?_; rintro e w1 ⟨rfl, rfl⟩)
      | (go_at_call 7; refine (Store_any ((HM.out.later (Below.refl _ _).drew).later hb) _ _).mono ?_; rintro e w2 ⟨rfl, hg, hm⟩))
  have HM2 := Lib.hid hm
  have HG2 := Lib.hid (grown_trans (grown_below (some h) (((box_below w (.cells #[.int .i64 T, .int .i64 S, .int .i64 L, .int .u64 G] 24)).drew).trans (hb.mono (by simp)))) hg)
  have hp2 : PlanBox w.heap.size T S L G w2 := by assumption
  obtain ⟨c_0, c_1, c_2, c_3⟩ := hp2
  have HI := Lib.hid hi
  clear hm hg hb HB
  go_wp2_with fail
  refine (Plan.Succ_any T S L G i _).mono ?_
  rintro e w3 ⟨rfl, hb3⟩
  have HM3 := Lib.hid (HM2.out.later hb3)
  have HG3 := Lib.hid (grown_trans HG2.out (grown_below (some h) hb3))
  clear hb3 c_0 c_1 c_2 c_3
  go_wp2_with fail
  refine (Store_any HM3.out _ _).mono ?_
  rintro e w4 ⟨rfl, hg4, hm4⟩
  go_wp2
  refine bodyPost_end (results_none rfl _ _ _) rfl ?_
  exact ⟨rfl, grown_trans HG3.out hg4, hm4⟩
theorem layFree_any {p h n : Nat} {l : List Int} {w : World} (hM : Mem w p h n l) (T S L G i : Int) (hi : 1 ≤ i) (hS : S ≤ 64) (hiS : i ≤ S) (hG : 0 ≤ G) :
    Calls Tryd.prog 18 #[.pointer (some ⟨p, 0, none⟩), .agg #[.int .i64 T, .int .i64 S, .int .i64 L, .int .u64 G], .int .i64 i] w fun e w' => e = .returned (.tuple #[]) ∧ w.grownBy w' (some h) ∧ Mem w' p h n (setI (setI l (atI T L i 0) (stI G 0)) (atI T L i 5) (belowI S i)) := by
  by_cases h : i < S
  · rw [below_some h]; exact layFree_more hM T S L G i hi hS hiS hG h
  · rw [below_none h]; exact layFree_last hM T S L G i hi hS hiS hG h

theorem past_later {w W W' : World} {o : Obj} (h : Below (w.heap.size + 1) (w.alloc o) W) (hb : Below W.heap.size W W') : Below (w.heap.size + 1) (w.alloc o) W' := h.trans (hb.mono (size_past h))
theorem right_nat {T S L : Nat} {G : Int} (h : rightB (T : Int) (S : Int) (L : Int) G = true) : 1 ≤ T ∧ T ≤ 8 ∧ 1 ≤ S ∧ S ≤ 64 ∧ 1 ≤ L ∧ L ≤ 8 := by
  have := right_is h
  omega

theorem Make_no {T S L G : Int} (h : rightB T S L G = false) (w : World) : Calls Tryd.prog 5 #[.agg #[.int .i64 T, .int .i64 S, .int .i64 L, .int .u64 G]] w fun e w' => e = .returned (.tuple #[.pointer none, .int .i64 1]) ∧ Below w.heap.size w w' := by
  obtain ⟨c_0, c_1, c_2, c_3⟩ := box4 w (.int .i64 T) (.int .i64 S) (.int .i64 L) (.int .u64 G) 24
  have H := Lib.hid h
  clear h
  go_enter Tryd.func5, Tryd.ntmps5
  go_wp2_with fail
  refine (Right_no H.out _).mono ?_
  rintro e w' ⟨rfl, hb⟩
  go_wp2
  go_ret2
  exact ⟨rfl, (box_below _ _).trans (hb.mono (by simp))⟩

set_option maxHeartbeats 1000000 in
theorem Make_yes {T S L : Nat} {G : Int} (hr : rightB (T : Int) (S : Int) (L : Int) G = true) (hG : 0 ≤ G) (w : World) : Calls Tryd.prog 5 #[.agg #[.int .i64 (T : Int), .int .i64 (S : Int), .int .i64 (L : Int), .int .u64 G]] w fun e w' => ∃ p h, e = .returned (.tuple #[.pointer (some ⟨p, 0, none⟩), .int .i64 0]) ∧ Makes w (wordsN T S L) (layL (wordsN T S L) T S L (stI G 0) S) w' p h := by
  obtain ⟨t1, t8, s1, s64, l1, l8⟩ := right_nat hr
  have HR := Lib.hid hr
  have HC := Lib.hid (words_cast (T := T) (S := S) (L := L) (by omega) (by omega) (by omega))
  have hm := words_small t8 s64 l8
  have HLF := Lib.hid fun (p h n : Nat) (l : List Int) (w : World) (hM : Mem w p h n l) (i : Int) (hi : 1 ≤ i) (hiS : i ≤ S) => layFree_any hM T S L G i hi (by omega) hiS hG
  have HS64 := Lib.hid s64
  generalize wordsN T S L = n at HC hm ⊢
  have HM := Lib.hid hm
  generalize stI G 0 = g at HLF ⊢
  obtain ⟨c_0, c_1, c_2, c_3⟩ := box4 w (.int .i64 (T : Int)) (.int .i64 (S : Int)) (.int .i64 (L : Int)) (.int .u64 G) 24
  clear hr hm hG t1 t8 s1 l1 l8 s64
  go_enter Tryd.func5, Tryd.ntmps5
  go_wp2_with fail
  refine (Right_yes HR.out _).mono ?_
  rintro e w1 ⟨rfl, b1⟩
  simp only [World.size_alloc] at b1
  have B1 := Lib.hid (show Below (w.heap.size + 1) (w.alloc (.cells #[.int .i64 (T : Int), .int .i64 (S : Int), .int .i64 (L : Int), .int .u64 G] 24)) w1 from b1)
  clear b1 c_0 c_1 c_2 c_3
  obtain ⟨c_0, c_1, c_2, c_3⟩ := box4_later B1.out
  go_wp2_with fail
  refine (Plan.Words_any T S L G _).mono ?_
  rintro e w2 ⟨rfl, b2⟩
  rw [HC.out]
  have B2 := Lib.hid (past_later B1.out b2)
  clear b2 c_0 c_1 c_2 c_3
  go_wp2_with fail
  refine (New_any HM.out _).mono ?_
  rintro e w3 ⟨p, h, rfl, m3, p3, h3, b3⟩
  have M3 := Lib.hid m3
  have B3 := Lib.hid (past_later B2.out b3)
  have HP := Lib.hid (show w.heap.size + 1 ≤ p ∧ w.heap.size + 1 ≤ h by have := size_past B2.out; omega)
  clear m3 p3 h3 b3
  go_wp2_with fail
  refine (Store_any M3.out 0 1).mono ?_
  rintro e w4 ⟨rfl, g4, m4⟩
  have M4 := Lib.hid m4
  have B4 := Lib.hid (below_of_grown B3.out g4 (size_past B3.out) HP.out.2)
  clear m4 g4
  go_wp2_with fail
  refine (Field.Pair_any 0 1 (by decide) (by decide) (by decide) _).mono ?_
  rintro e w5 ⟨rfl, rfl⟩
  rw [show (0 : Int) % 4294967296 * 4294967296 + 1 % 4294967296 = 1 by decide]
  go_wp2_with fail
  refine (Store_any M4.out 3 1).mono ?_
  rintro e w6 ⟨rfl, g6, m6⟩
  have M6 := Lib.hid (show Mem w6 p h n (layL n T S L g 0) from m6)
  have B6 := Lib.hid (below_of_grown B4.out g6 (size_past B4.out) HP.out.2)
  clear m6 g6
  obtain ⟨c_0, c_1, c_2, c_3⟩ := box4_later B6.out
  go_wp2
  clear c_0 c_1 c_2 c_3
  go_loopw [26] (fun iv wr => ∃ k : Nat, k ≤ S ∧ iv = .int .i64 k ∧ Mem wr p h n (layL n T S L g k) ∧ Below (w.heap.size + 1) (w.alloc (.cells #[.int .i64 (T : Int), .int .i64 (S : Int), .int .i64 (L : Int), .int .u64 G] 24)) wr)
    (fun iv _ => S - (intOf iv).toNat)
  case atStart => exact ⟨0, Nat.zero_le _, rfl, M6.out, B6.out⟩
  case round =>
    obtain ⟨k, hk, rfl, hm, hb⟩ := hrel
    have MK := Lib.hid hm
    have BK := Lib.hid hb
    have hs := HS64.out
    clear hm hb
    obtain ⟨c_0, c_1, c_2, c_3⟩ := box4_later BK.out
    by_cases hlt : k < S
    · go_wp2_with fail
      refine (HLF.out _ _ _ _ _ MK.out ((k : Int) + 1) (by omega) (by omega)).mono ?_
      rintro e w7 ⟨rfl, g7, m7⟩
      have M7 := Lib.hid m7
      have B7 := Lib.hid (below_of_grown BK.out g7 (size_past BK.out) HP.out.2)
      clear m7 g7 c_0 c_1 c_2 c_3
      go_wp2
      go_roundw
      case rel => exact ⟨k + 1, by omega, by go_num, M7.out, B7.out⟩
      case measure => simp [intOf]; omega
    · obtain rfl : k = S := by omega
      go_wp2
      go_ret2
      have := HP.out
      exact ⟨p, h, rfl, MK.out, by omega, by omega, below_past BK.out⟩
end Go.Proofs.YtelnkbikgboblaaDoor.Blank
