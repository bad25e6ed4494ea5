import Derived.Test.YtlagghghbpbcbaaGreatDoorStartComesAllP12
import Derived.Test.YtlagghghbpbcbaaGreatDoorStartComesAllP10
import Derived.Test.YtlagghghbpbcbaaGreatDoorStartComesAllP6
import Derived.Test.YtlagghghbpbcbaaGreatDoorStartComesAllP9
import Derived.Test.YtlagghghbpbcbaaGreatDoorStartComesAllP1
import Derived.WalkMore
/- The functions of package blank (layer 10), held to plain lists: the memory at the beginning, and the free slots that a memory's words tell. -/
namespace Go.Proofs.YtlagghghbpbcbaaGreatDoor.Blank
set_option maxRecDepth 20000
open Go.ChangeShapes Go.WideShapes Go.RowKit PM CM SM BM Lay Ints Plan
open Go.Proofs.YtlagghghbpbcbaaGreatDoor.Cells (Mem grown_below grown_trans grown_refl Makes row_grown below_of_grown Store_any Load_any New_any)
set_option linter.unusedVariables false

/-- The four cells of a boxed plan, held. -/
def PlanBox (b : Nat) (T S L G : Int) (w : World) : Prop := w.cell? ⟨b, 0, none⟩ = some (.int .i64 T) ∧ w.cell? ⟨b, 1, none⟩ = some (.int .i64 S) ∧ w.cell? ⟨b, 2, none⟩ = some (.int .i64 L) ∧ w.cell? ⟨b, 3, none⟩ = some (.int .u64 G)
theorem PlanBox.grown {b : Nat} {T S L G : Int} {w w' : World} {r : Option Nat} (h : PlanBox b T S L G w) (hg : w.grownBy w' r) (hr : some b ≠ r) : PlanBox b T S L G w' :=
  ⟨hg.cell h.1 hr, hg.cell h.2.1 hr, hg.cell h.2.2.1 hr, hg.cell h.2.2.2 hr⟩
theorem PlanBox.later {b : Nat} {T S L G : Int} {w w' : World} (h : PlanBox b T S L G w) (hb : Below w.heap.size w w') : PlanBox b T S L G w' :=
  ⟨cell_later hb h.1, cell_later hb h.2.1, cell_later hb h.2.2.1, cell_later hb h.2.2.2⟩
theorem plan_box (w : World) (T S L G : Int) : PlanBox w.heap.size T S L G (w.alloc (.cells #[.int .i64 T, .int .i64 S, .int .i64 L, .int .u64 G] 24)) := box4 w _ _ _ _ _
theorem PlanBox.lt {b : Nat} {T S L G : Int} {w : World} (h : PlanBox b T S L G w) : b < w.heap.size := World.block_lt_of_cell? _ _ h.1

theorem layFree_more {p h n : Nat} {l : List Int} {w : World} (hM : Mem w p h n l) (T S L G i : Int) (hi : 1 ≤ i) (hS : S ≤ 64) (hiS : i ≤ S) (hG : 0 ≤ G) (hlt : i < S) :
    Calls Tryz.prog 56 #[.pointer (some ⟨p, 0, none⟩), .agg #[.int .i64 T, .int .i64 S, .int .i64 L, .int .u64 G], .int .i64 i] w fun e w' => e = .returned (.tuple #[]) ∧ w.grownBy w' (some h) ∧ Mem w' p h n (setI (setI l (atI T L i 0) (stI G 0)) (atI T L i 5) (i + 1)) := by
  have HM := Lib.hid (hM.later (box_below w (.cells #[.int .i64 T, .int .i64 S, .int .i64 L, .int .u64 G] 24)))
  have NE := Lib.hid (show some w.heap.size ≠ some h by have := hM.lt.2; simp; omega)
  obtain ⟨c_0, c_1, c_2, c_3⟩ := plan_box w T S L G
  have HB := Lib.hid (plan_box w T S L G)
  have HST := Lib.hid (State.Of_any G 0 hG)
  generalize stI G 0 = g at HST ⊢
  clear hM hG
  go_enter Tryz.func56, Tryz.ntmps56
  go_wp2
  go_region_held3 (fun w' => w'.cell? ⟨w.heap.size, 0, none⟩ = some (.int .i64 T) ∧ w'.cell? ⟨w.heap.size, 1, none⟩ = some (.int .i64 S) ∧ w'.cell? ⟨w.heap.size, 2, none⟩ = some (.int .i64 L) ∧ w'.cell? ⟨w.heap.size, 3, none⟩ = some (.int .u64 G))
    ((first | exact (HB.out.later (Below.refl _ _).drew) | exact PlanBox.grown (by assumption) (grown_refl _ _) NE.out | exact PlanBox.grown (by assumption) (by assumption) NE.out))
    (first
      | (go_at_call 19; refine (Plan.State_any T S L G i _).mono ?_; rintro e w1 ⟨rfl, hb⟩; have hg := grown_below (some h) hb)
      | (go_at_call 77; refine (HST.out _).mono ?_; rintro e w1 ⟨rfl, rfl⟩)
      | (go_at_call 55; refine (Store_any ((HM.out.later (Below.refl _ _).drew).later hb) _ _).mono ?_; rintro e w2 ⟨rfl, hg, hm⟩))
  have HM2 := Lib.hid hm
  have HG2 := Lib.hid (grown_trans (grown_below (some h) (((box_below w (.cells #[.int .i64 T, .int .i64 S, .int .i64 L, .int .u64 G] 24)).drew).trans (hb.mono (by simp)))) hg)
  have hp2 : PlanBox w.heap.size T S L G w2 := by assumption
  obtain ⟨c_0, c_1, c_2, c_3⟩ := hp2
  have HI := Lib.hid hi
  clear hm hg hb HB
  go_wp2_with fail
  refine (Plan.Succ_any T S L G i _).mono ?_
  rintro e w3 ⟨rfl, hb3⟩
  have HM3 := Lib.hid (HM2.out.later hb3)
  have HG3 := Lib.hid (grown_trans HG2.out (grown_below (some h) hb3))
  clear hb3 c_0 c_1 c_2 c_3
  go_wp2_with fail
  refine (Store_any HM3.out _ _).mono ?_
  rintro e w4 ⟨rfl, hg4, hm4⟩
  go_wp2
  refine bodyPost_end (results_none rfl _ _ _) rfl ?_
  exact ⟨rfl, grown_trans HG3.out hg4, hm4⟩
theorem layFree_last {p h n : Nat} {l : List Int} {w : World} (hM : Mem w p h n l) (T S L G i : Int) (hi : 1 ≤ i) (hS : S ≤ 64) (hiS : i ≤ S) (hG : 0 ≤ G) (hlt : ¬ i < S) :
    Calls Tryz.prog 56 #[.pointer (some ⟨p, 0, none⟩), .agg #[.int .i64 T, .int .i64 S, .int .i64 L, .int .u64 G], .int .i64 i] w fun e w' => e = .returned (.tuple #[]) ∧ w.grownBy w' (some h) ∧ Mem w' p h n (setI (setI l (atI T L i 0) (stI G 0)) (atI T L i 5) (0)) := by
  have HM := Lib.hid (hM.later (box_below w (.cells #[.int .i64 T, .int .i64 S, .int .i64 L, .int .u64 G] 24)))
  have NE := Lib.hid (show some w.heap.size ≠ some h by have := hM.lt.2; simp; omega)
  obtain ⟨c_0, c_1, c_2, c_3⟩ := plan_box w T S L G
  have HB := Lib.hid (plan_box w T S L G)
  have HST := Lib.hid (State.Of_any G 0 hG)
  generalize stI G 0 = g at HST ⊢
  clear hM hG
  go_enter Tryz.func56, Tryz.ntmps56
  go_wp2
  go_region_held3 (fun w' => w'.cell? ⟨w.heap.size, 0, none⟩ = some (.int .i64 T) ∧ w'.cell? ⟨w.heap.size, 1, none⟩ = some (.int .i64 S) ∧ w'.cell? ⟨w.heap.size, 2, none⟩ = some (.int .i64 L) ∧ w'.cell? ⟨w.heap.size, 3, none⟩ = some (.int .u64 G))
    ((first | exact (HB.out.later (Below.refl _ _).drew) | exact PlanBox.grown (by assumption) (grown_refl _ _) NE.out | exact PlanBox.grown (by assumption) (by assumption) NE.out))
    (first
      | (go_at_call 19; refine (Plan.State_any T S L G i _).mono ?_; rintro e w1 ⟨rfl, hb⟩; have hg := grown_below (some h) hb)
      | (go_at_call 77; refine (HST.out _).mono ?_; rintro e w1 ⟨rfl, rfl⟩)
      | (go_at_call 55; refine (Store_any ((HM.out.later (Below.refl _ _).drew).later hb) _ _).mono ?_; rintro e w2 ⟨rfl, hg, hm⟩))
  have HM2 := Lib.hid hm
  have HG2 := Lib.hid (grown_trans (grown_below (some h) (((box_below w (.cells #[.int .i64 T, .int .i64 S, .int .i64 L, .int .u64 G] 24)).drew).trans (hb.mono (by simp)))) hg)
  have hp2 : PlanBox w.heap.size T S L G w2 := by assumption
  obtain ⟨c_0, c_1, c_2, c_3⟩ := hp2
  have HI := Lib.hid hi
  clear hm hg hb HB
  go_wp2_with fail
  refine (Plan.Succ_any T S L G i _).mono ?_
  rintro e w3 ⟨rfl, hb3⟩
  have HM3 := Lib.hid (HM2.out.later hb3)
  have HG3 := Lib.hid (grown_trans HG2.out (grown_below (some h) hb3))
  clear hb3 c_0 c_1 c_2 c_3
  go_wp2_with fail
  refine (Store_any HM3.out _ _).mono ?_
  rintro e w4 ⟨rfl, hg4, hm4⟩
  go_wp2
  refine bodyPost_end (results_none rfl _ _ _) rfl ?_
  exact ⟨rfl, grown_trans HG3.out hg4, hm4⟩
theorem layFree_any {p h n : Nat} {l : List Int} {w : World} (hM : Mem w p h n l) (T S L G i : Int) (hi : 1 ≤ i) (hS : S ≤ 64) (hiS : i ≤ S) (hG : 0 ≤ G) :
    Calls Tryz.prog 56 #[.pointer (some ⟨p, 0, none⟩), .agg #[.int .i64 T, .int .i64 S, .int .i64 L, .int .u64 G], .int .i64 i] w fun e w' => e = .returned (.tuple #[]) ∧ w.grownBy w' (some h) ∧ Mem w' p h n (setI (setI l (atI T L i 0) (stI G 0)) (atI T L i 5) (belowI S i)) := by
  by_cases h : i < S
  · rw [below_some h]; exact layFree_more hM T S L G i hi hS hiS hG h
  · rw [below_none h]; exact layFree_last hM T S L G i hi hS hiS hG h

theorem past_later {w W W' : World} {o : Obj} (h : Below (w.heap.size + 1) (w.alloc o) W) (hb : Below W.heap.size W W') : Below (w.heap.size + 1) (w.alloc o) W' := h.trans (hb.mono (size_past h))
theorem right_nat {T S L : Nat} {G : Int} (h : rightB (T : Int) (S : Int) (L : Int) G = true) : 1 ≤ T ∧ T ≤ 8 ∧ 1 ≤ S ∧ S ≤ 64 ∧ 1 ≤ L ∧ L ≤ 8 := by
  have := right_is h
  omega

set_option maxHeartbeats 1000000 in
theorem Make_yes {T S L : Nat} {G : Int} (hr : rightB (T : Int) (S : Int) (L : Int) G = true) (hG : 0 ≤ G) (w : World) : Calls Tryz.prog 24 #[.agg #[.int .i64 (T : Int), .int .i64 (S : Int), .int .i64 (L : Int), .int .u64 G]] w fun e w' => ∃ p h, e = .returned (.tuple #[.pointer (some ⟨p, 0, none⟩), .int .i64 0]) ∧ Makes w (wordsN T S L) (layL (wordsN T S L) T S L (stI G 0) S) w' p h := by
  obtain ⟨t1, t8, s1, s64, l1, l8⟩ := right_nat hr
  have HR := Lib.hid hr
  have HC := Lib.hid (words_cast (T := T) (S := S) (L := L) (by omega) (by omega) (by omega))
  have hm := words_small t8 s64 l8
  have HLF := Lib.hid fun (p h n : Nat) (l : List Int) (w : World) (hM : Mem w p h n l) (i : Int) (hi : 1 ≤ i) (hiS : i ≤ S) => layFree_any hM T S L G i hi (by omega) hiS hG
  have HS64 := Lib.hid s64
  generalize wordsN T S L = n at HC hm ⊢
  have HM := Lib.hid hm
  generalize stI G 0 = g at HLF ⊢
  obtain ⟨c_0, c_1, c_2, c_3⟩ := box4 w (.int .i64 (T : Int)) (.int .i64 (S : Int)) (.int .i64 (L : Int)) (.int .u64 G) 24
  clear hr hm hG t1 t8 s1 l1 l8 s64
  go_enter Tryz.func24, Tryz.ntmps24
  go_wp2_with fail
  refine (Right_yes HR.out _).mono ?_
  rintro e w1 ⟨rfl, b1⟩
  simp only [World.size_alloc] at b1
  have B1 := Lib.hid (show Below (w.heap.size + 1) (w.alloc (.cells #[.int .i64 (T : Int), .int .i64 (S : Int), .int .i64 (L : Int), .int .u64 G] 24)) w1 from b1)
  clear b1 c_0 c_1 c_2 c_3
  obtain ⟨c_0, c_1, c_2, c_3⟩ := box4_later B1.out
  go_wp2_with fail
  refine (Plan.Words_any T S L G _).mono ?_
  rintro e w2 ⟨rfl, b2⟩
  rw [HC.out]
  have B2 := Lib.hid (past_later B1.out b2)
  clear b2 c_0 c_1 c_2 c_3
  go_wp2_with fail
  refine (New_any HM.out _).mono ?_
  rintro e w3 ⟨p, h, rfl, m3, p3, h3, b3⟩
  have M3 := Lib.hid m3
  have B3 := Lib.hid (past_later B2.out b3)
  have HP := Lib.hid (show w.heap.size + 1 ≤ p ∧ w.heap.size + 1 ≤ h by have := size_past B2.out; omega)
  clear m3 p3 h3 b3
  go_wp2_with fail
  refine (Store_any M3.out 0 1).mono ?_
  rintro e w4 ⟨rfl, g4, m4⟩
  have M4 := Lib.hid m4
  have B4 := Lib.hid (below_of_grown B3.out g4 (size_past B3.out) HP.out.2)
  clear m4 g4
  go_wp2_with fail
  refine (Field.Pair_any 0 1 (by decide) (by decide) (by decide) _).mono ?_
  rintro e w5 ⟨rfl, rfl⟩
  rw [show (0 : Int) % 4294967296 * 4294967296 + 1 % 4294967296 = 1 by decide]
  go_wp2_with fail
  refine (Store_any M4.out 3 1).mono ?_
  rintro e w6 ⟨rfl, g6, m6⟩
  have M6 := Lib.hid (show Mem w6 p h n (layL n T S L g 0) from m6)
  have B6 := Lib.hid (below_of_grown B4.out g6 (size_past B4.out) HP.out.2)
  clear m6 g6
  obtain ⟨c_0, c_1, c_2, c_3⟩ := box4_later B6.out
  go_wp2
  clear c_0 c_1 c_2 c_3
  go_loopw [26] (fun iv wr => ∃ k : Nat, k ≤ S ∧ iv = .int .i64 k ∧ Mem wr p h n (layL n T S L g k) ∧ Below (w.heap.size + 1) (w.alloc (.cells #[.int .i64 (T : Int), .int .i64 (S : Int), .int .i64 (L : Int), .int .u64 G] 24)) wr)
    (fun iv _ => S - (intOf iv).toNat)
  case atStart => exact ⟨0, Nat.zero_le _, rfl, M6.out, B6.out⟩
  case round =>
    obtain ⟨k, hk, rfl, hm, hb⟩ := hrel
    have MK := Lib.hid hm
    have BK := Lib.hid hb
    have hs := HS64.out
    clear hm hb
    obtain ⟨c_0, c_1, c_2, c_3⟩ := box4_later BK.out
    by_cases hlt : k < S
    · go_wp2_with fail
      refine (HLF.out _ _ _ _ _ MK.out ((k : Int) + 1) (by omega) (by omega)).mono ?_
      rintro e w7 ⟨rfl, g7, m7⟩
      have M7 := Lib.hid m7
      have B7 := Lib.hid (below_of_grown BK.out g7 (size_past BK.out) HP.out.2)
      clear m7 g7 c_0 c_1 c_2 c_3
      go_wp2
      go_roundw
      case rel => exact ⟨k + 1, by omega, by go_num, M7.out, B7.out⟩
      case measure => simp [intOf]; omega
    · obtain rfl : k = S := by omega
      go_wp2
      go_ret2
      have := HP.out
      exact ⟨p, h, rfl, MK.out, by omega, by omega, below_past BK.out⟩
end Go.Proofs.YtlagghghbpbcbaaGreatDoor.Blank

/- Package blank's Free, held to plain lists: the free slots that a memory's words tell, in a new list; all else in memory stays as it was. -/
namespace Go.Proofs.YtlagghghbpbcbaaGreatDoor.Blank
set_option maxRecDepth 20000
open Go.ChangeShapes Go.WideShapes Go.RowKit PM CM SM BM Lay Ints Plan
open Go.Proofs.YtlagghghbpbcbaaGreatDoor.Cells (Mem Makes Load_any)
set_option linter.unusedVariables false

/-- A new list of integers: its value, what it holds, and that nothing else has turned. -/
def Lists (w : World) (l : List Int) (e : Ending) (w' : World) : Prop := ∃ (A : Option Addr) (c : Nat), e = .returned (.slice A l.length c) ∧ Row w' w'.heap.size A (flat (encZ .i64) l) ∧ Below w.heap.size w w'
/-- How long a slice is. -/
def lenV : Value → Nat
  | .slice _ n _ => n
  | _ => 0

theorem ends {w wr : World} {o : Obj} {A : Option Addr} {k c base : Nat} {t : TypeId} {F out : List Int} (ho : wr.ownsRow base t 1 (.slice A k c) k (flat (encZ .i64) out)) (hl : k = out.length) (hF : F = out) (hb : Below (w.heap.size + 1) (w.alloc o) wr) : Lists w F (.returned (.slice A k c)) wr := by
  subst hF
  subst hl
  exact ⟨A, c, rfl, Row.of_own ho, below_past hb⟩

theorem infoInt : (Tryz.prog.info? 3).map (fun i => (i.zero, i.size, i.bytes)) = some (some (.int .i64 0), 1, 8) := by kernel_rfl
set_option maxHeartbeats 1000000 in
theorem Free_yes {T S L : Nat} {G : Int} (hr : rightB (T : Int) (S : Int) (L : Int) G = true) {p h n : Nat} {l : List Int} {w : World} (hM : Mem w p h n l) (hF : Fits l) : Calls Tryz.prog 9 #[.pointer (some ⟨p, 0, none⟩), .agg #[.int .i64 (T : Int), .int .i64 (S : Int), .int .i64 (L : Int), .int .u64 G]] w (Lists w (freeL T S L l)) := by
  obtain ⟨t1, t8, s1, s64, l1, l8⟩ := right_nat hr
  have HR := Lib.hid hr
  have HM := Lib.hid (hM.later (box_below w (.cells #[.int .i64 (T : Int), .int .i64 (S : Int), .int .i64 (L : Int), .int .u64 G] 24)))
  have HF := Lib.hid (fits_get hF)
  obtain ⟨i0, hi, hz0, hz1, hz2⟩ := info_parts infoInt
  obtain ⟨c_0, c_1, c_2, c_3⟩ := box4 w (.int .i64 (T : Int)) (.int .i64 (S : Int)) (.int .i64 (L : Int)) (.int .u64 G) 24
  have HL := Lib.hid fun (w : World) (hM : Mem w p h n l) => Load_any hM 3
  obtain ⟨x3, hx3⟩ : ∃ x, getI l 3 = x := ⟨_, rfl⟩
  have h3 := fits_get hF 3
  unfold freeL
  rw [hx3] at HL h3 ⊢
  obtain ⟨nx, hnx⟩ : ∃ f : Int → Int, f = fun i => getI l (atI T L i 5) := ⟨_, rfl⟩
  have HNX := Lib.hid (fun i => show getI l (atI T L i 5) = nx i by rw [hnx])
  rw [← hnx]
  have HN0 := Lib.hid (fun i => show 0 ≤ nx i by rw [hnx]; exact (fits_get hF _).1)
  obtain ⟨F, hFr⟩ : ∃ F, goF (S : Int) nx S [] (x3 % 4294967296) = F := ⟨_, rfl⟩
  rw [hFr]
  have HFR := Lib.hid hFr
  clear hr hM hF hx3 hnx hFr
  go_enter Tryz.func9, Tryz.ntmps9
  go_wp2_with fail
  go_step3
  go_wp2_with fail
  refine (Right_yes HR.out _).mono ?_
  rintro e w1 ⟨rfl, b1⟩
  simp only [World.size_alloc] at b1
  have B1 := Lib.hid (show Below (w.heap.size + 1) (w.alloc (.cells #[.int .i64 (T : Int), .int .i64 (S : Int), .int .i64 (L : Int), .int .u64 G] 24)) w1 from b1)
  have M1 := Lib.hid (HM.out.later (by simpa using B1.out))
  clear b1 c_0 c_1 c_2 c_3
  obtain ⟨c_0, c_1, c_2, c_3⟩ := box4_later B1.out
  go_wp2_with fail
  refine (HL.out _ M1.out).mono ?_
  rintro e w2 ⟨rfl, rfl⟩
  go_wp2_with fail
  refine (Field.Low_any x3 h3.1 h3.2 _).mono ?_
  rintro e w2 ⟨rfl, rfl⟩
  go_wp2_with fail
  go_step3
  have HX := Lib.hid (show 0 ≤ x3 % 4294967296 by omega)
  have hS64 := s64
  clear h3 t1 t8 s1 l1 l8 s64 c_0 c_1 c_2 c_3
  go_wp2
  go_loopw [5, 6] (fun lv bv wr => ∃ (k : Nat) (A : Option Addr) (c : Nat) (b : Int) (out : List Int), k ≤ S ∧ lv = .slice A k c ∧ bv = .int .u64 b ∧ 0 ≤ b ∧ wr.ownsRow (w.heap.size + 1) 3 1 (.slice A k c) k (flat (encZ .i64) out) ∧ k = out.length ∧ goF (S : Int) nx (S - k) out b = F ∧ Below (w.heap.size + 1) (w.alloc (.cells #[.int .i64 (T : Int), .int .i64 (S : Int), .int .i64 (L : Int), .int .u64 G] 24)) wr)
    (fun lv _ _ => S - lenV lv)
  case atStart => exact ⟨0, none, 0, _, [], Nat.zero_le _, rfl, rfl, HX.out, World.ownsRow_nil _ _ _ _, rfl, HFR.out, B1.out⟩
  case round =>
    obtain ⟨k, A, c, b, out, hk, rfl, rfl, hb0, ho, hlen, hgo, hb⟩ := hrel
    have HO := Lib.hid ho
    have HN := Lib.hid hlen
    have HG := Lib.hid hgo
    have HB := Lib.hid hb
    obtain ⟨c_0, c_1, c_2, c_3⟩ := box4_later hb
    clear ho hlen hgo hb
    by_cases hlt : k < S
    · by_cases hb1 : b = 0
      · have HE := Lib.hid (show F = out from HG.out.symm.trans (go_stop (by omega)))
        have hb2 : (b == 0) = true := by simpa using hb1
        go_wp2
        rw [Exit.noGoto_ret]
        go_ret
        exact ends HO.out HN.out HE.out HB.out
      · have hb2 : (b == 0) = false := by simpa using hb1
        by_cases hbS : (S : Int) < b
        · have HE := Lib.hid (show F = out from HG.out.symm.trans (go_stop (by omega)))
          go_wp2
          rw [Exit.noGoto_ret]
          go_ret
          exact ends HO.out HN.out HE.out HB.out
        · have hb3 : 1 ≤ b ∧ b ≤ 64 := by omega
          go_wp2
          clear c_0 c_1 c_2 c_3
          go_loopw [34] (fun jv wi => ∃ j : Nat, j ≤ k ∧ jv = .int .i64 j ∧ (∀ i, i < j → out[i]? ≠ some b) ∧ wr = wi)
            (fun jv _ => k - (intOf jv).toNat)
          case atStart => exact ⟨0, Nat.zero_le _, rfl, fun i h => by omega, rfl⟩
          case round =>
            obtain ⟨j, hj, rfl, hne, rfl⟩ := hrel
            have HNE := Lib.hid hne
            clear hne
            by_cases hjk : j < k
            · have hjl : j < out.length := by rw [← HN.out]; exact hjk
              obtain ⟨bl, o, rfl, _, hc⟩ := int_at (Row.of_own HO.out) hjl
              obtain ⟨y, hy⟩ : ∃ y, out[j]? = some y := ⟨_, List.getElem?_eq_getElem hjl⟩
              have c0 := hc j y hy
              have HY := Lib.hid hy
              clear hc hy hjl
              by_cases hyb : y = b
              · have hyb2 : (y == b) = true := by simpa using hyb
                have HE := Lib.hid (show F = out from HG.out.symm.trans (go_stop fun hh => hh.2.2 (hyb ▸ List.mem_of_getElem? HY.out)))
                clear hyb
                go_wp2
                rw [Exit.noGoto_ret]
                go_ret
                exact ends HO.out HN.out HE.out HB.out
              · have hyb2 : (y == b) = false := by simpa using hyb
                have HYB := Lib.hid hyb
                clear hyb
                go_wp2
                go_roundw
                case rel =>
                  refine ⟨j + 1, by omega, by go_num, fun i hi => ?_, trivial⟩
                  by_cases e : i = j
                  · subst e
                    rw [HY.out]
                    exact fun e => HYB.out (by simpa using e)
                  · exact HNE.out i (by omega)
                case measure => simp [intOf]; omega
            · have HJ := Lib.hid (show b ∉ out from fun hm => by
                obtain ⟨i, hi, e⟩ := List.mem_iff_getElem.1 hm
                have := HN.out
                exact HNE.out i (by omega) (by rw [List.getElem?_eq_getElem hi, e]))
              have HS := Lib.hid (show goF (S : Int) nx (S - (k + 1)) (out ++ [b]) (nx b) = F by
                rw [← HG.out, show S - k = (S - (k + 1)) + 1 by omega, go_step ⟨hb3.1, by omega, HJ.out⟩])
              clear HNE
              go_wp2_with (at_builtin; refine wpList_append_to _ (w.alloc (.cells #[.int .i64 (T : Int), .int .i64 (S : Int), .int .i64 (L : Int), .int .u64 G] 24)) rfl (.tmp 42) (.tmp 44) 39 rfl (w.heap.size + 1) 3 i0 _ 1 8 Tryz.underlying39 hi hz0 hz1 hz2 rfl (by decide) _ k _ rfl (HO.out.alloc _) ⟨wr.heap.size, 0, none⟩ 1 1 (flat (encZ .i64) [b]) rfl (by decide) rfl (cells_new _ _ _) (flat_oneCell (encZ_one _) _) (by simp only [maxLen]; omega) (by omega) (by have := size_past HB.out; simp; omega) ((HB.out).alloc (size_past HB.out) _) ?_; intro g2 cap2 w6 ho2 hg2 hlt2 hb2; have HO6 := Lib.hid ho2; have HP6 := Lib.hid (show Below (w.heap.size + 1) (w.alloc (.cells #[.int .i64 (T : Int), .int .i64 (S : Int), .int .i64 (L : Int), .int .u64 G] 24)) w6 from hb2); obtain ⟨c_0, c_1, c_2, c_3⟩ := box4_later HP6.out; clear ho2 hb2)
              refine (Plan.Succ_any T S L G b _).mono ?_
              rintro e w7 ⟨rfl, hb7⟩
              have HP7 := Lib.hid (past_later HP6.out hb7)
              have HO7 := Lib.hid (own_later HO6.out hb7)
              have HM7 := Lib.hid (HM.out.later (by simpa using HP7.out))
              clear hb7 c_0 c_1 c_2 c_3
              go_wp2_with fail
              refine (Load_any HM7.out _).mono ?_
              rintro e w8 ⟨rfl, rfl⟩
              rw [HNX.out]
              have HX2 := Lib.hid (HN0.out b)
              go_wp2
              go_roundw
              case rel => exact ⟨k + 1, _, cap2, nx b, out ++ [b], by omega, rfl, rfl, HX2.out, by rw [flat_append]; exact HO7.out, by rw [List.length_append, ← HN.out]; rfl, HS.out, HP7.out⟩
              case measure => simp [lenV]; omega
    · obtain rfl : k = S := by omega
      have HE := Lib.hid (show F = out by have := HG.out; rw [Nat.sub_self, go_zero] at this; exact this.symm)
      go_wp2
      try rw [Exit.noGoto_ret]
      go_ret
      exact ends HO.out HN.out HE.out HB.out
end Go.Proofs.YtlagghghbpbcbaaGreatDoor.Blank
