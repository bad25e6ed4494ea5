/- Law 22's MarkAll where there is nothing to mark: of a plan that is not right, an index of no slot, or too many words. -/
import Derived.Test.YtpefngpmbladeaaDoorMarkAwake
import Derived.Test.YtpefngpmbladeaaDoorBlankWalks
import Derived.Deep.DeepCutAuto
namespace Go.Proofs.YtpefngpmbladeaaDoor.MarkOut
set_option maxRecDepth 20000
open Go.ChangeShapes Go.WideShapes Go.ChangeAt Go.RowKit CM DM PM KM MkM Lay Plan Go.Proofs.YtpefngpmbladeaaDoor.Task
open Go.Proofs.YtpefngpmbladeaaDoor.Law22 (plan4 awake_any wf_u64 wf_i64)
set_option linter.unusedVariables false
set_option linter.unusedSimpArgs false

/-- Both boxes: the plan's, and behind it that of the numbers. -/
def Boxes (W : World) (B : Nat) (T S L G i tall : Int) : Prop := (W.cell? ⟨B, 0, none⟩ = some (.int .i64 T) ∧ W.cell? ⟨B, 1, none⟩ = some (.int .i64 S) ∧ W.cell? ⟨B, 2, none⟩ = some (.int .i64 L) ∧ W.cell? ⟨B, 3, none⟩ = some (.int .u64 G)) ∧
  W.cell? ⟨B + 1, 0, none⟩ = some (.int .i64 i) ∧ W.cell? ⟨B + 1, 1, none⟩ = some (.int .i64 tall)
theorem Boxes.only {W W' : World} {B : Nat} {T S L G i tall : Int} {R : Nat → Prop} (h : Boxes W B T S L G i tall) (ho : Only R W W') (h0 : ¬ R B ∧ ¬ R (B + 1)) : Boxes W' B T S L G i tall :=
  ⟨plan4 h.1 ho h0.1, ho.cell h.2.1 h0.2, ho.cell h.2.2 h0.2⟩
theorem boxes (w : World) (T S L G i tall : Int) : Boxes ((w.alloc (.cells #[.int .i64 T, .int .i64 S, .int .i64 L, .int .u64 G] 24)).alloc (.cells #[.int .i64 i, .int .i64 tall] 25)) w.heap.size T S L G i tall := by
  have hb : Below (w.alloc (.cells #[.int .i64 T, .int .i64 S, .int .i64 L, .int .u64 G] 24)).heap.size (w.alloc (.cells #[.int .i64 T, .int .i64 S, .int .i64 L, .int .u64 G] 24)) ((w.alloc (.cells #[.int .i64 T, .int .i64 S, .int .i64 L, .int .u64 G] 24)).alloc (.cells #[.int .i64 i, .int .i64 tall] 25)) := box_below _ _
  have hp := plan4 (box4 w (.int .i64 T) (.int .i64 S) (.int .i64 L) (.int .u64 G) 24) (only_below (fun _ => False) hb) id
  have h : ∀ j, ((w.alloc (.cells #[.int .i64 T, .int .i64 S, .int .i64 L, .int .u64 G] 24)).alloc (.cells #[.int .i64 i, .int .i64 tall] 25)).cell? ⟨w.heap.size + 1, j, none⟩ = (#[.int .i64 i, .int .i64 tall] : Array Value)[j]? := fun j => by
    have h := (cell_heap (new_heap (w.alloc (.cells #[.int .i64 T, .int .i64 S, .int .i64 L, .int .u64 G] 24)) (.cells #[.int .i64 i, .int .i64 tall] 25)) j).1
    simpa only [World.size_alloc] using h
  exact ⟨hp, h 0, h 1⟩
theorem below2 (w : World) (o1 o2 : Obj) : Below w.heap.size w ((w.alloc o1).alloc o2) := (box_below w o1).trans ((box_below _ o2).mono (by simp))

theorem walk_no (T S L G i tall : Int) (hr : rightB T S L G = false) (A : Option Addr) (n c : Nat) (w : World) : Calls Tryd.prog 3 #[.agg #[.int .i64 T, .int .i64 S, .int .i64 L, .int .u64 G], .agg #[.int .i64 i, .int .i64 tall], .slice A n c] w fun e w' => e = .returned (.bool true) ∧ Below w.heap.size w w' := by
  have HR := Lib.hid hr
  have HB0 := Lib.hid (below2 w (.cells #[.int .i64 T, .int .i64 S, .int .i64 L, .int .u64 G] 24) (.cells #[.int .i64 i, .int .i64 tall] 25))
  have HC := Lib.hid (boxes w T S L G i tall)
  obtain ⟨⟨c_0, c_1, c_2, c_3⟩, c_4, c_5⟩ := HC.out
  clear hr
  go_enter Tryd.func3, Tryd.ntmps3
  go_wp2_with fail
  refine (Blank.Make_no HR.out _).mono ?_
  rintro e w1 ⟨rfl, b1⟩
  have HB1 := Lib.hid (HB0.out.trans (b1.mono HB0.out.size))
  clear c_0 c_1 c_2 c_3 c_4 c_5
  obtain ⟨⟨c_0, c_1, c_2, c_3⟩, c_4, c_5⟩ := HC.out.only (only_below (fun _ => False) b1) ⟨id, id⟩
  clear b1
  go_upto_region 2 with fail
  go_cut [9, 10] (fun s9 s10 wx => s9 = .int .i64 i ∧ s10 = .int .i64 tall ∧ wx = w1.drew)
  case first =>
    go_region
    all_goals go_wp2_with fail
    all_goals go_meet
    all_goals (case rel => exact ⟨rfl, rfl, rfl⟩)
  obtain ⟨rfl, rfl, rfl⟩ := hcut
  clear c_0 c_1 c_2 c_3 c_4 c_5
  go_wp2_with fail
  refine (awake_any _).mono ?_
  rintro e w4 ⟨rfl, b4⟩
  go_wp2
  go_ret
  exact ⟨rfl, HB1.out.trans (((Below.refl _ _).drew.trans b4).mono HB1.out.size)⟩
theorem walk_low (T S L : Nat) (G i tall : Int) (hr : rightB (T : Int) (S : Int) (L : Int) G = true) (hG : 0 ≤ G) (A : Option Addr) (n c : Nat) (hn : n ≤ 9223372036854775807) (h1 : i < 1) (w : World) : Calls Tryd.prog 3 #[.agg #[.int .i64 (T : Int), .int .i64 (S : Int), .int .i64 (L : Int), .int .u64 G], .agg #[.int .i64 i, .int .i64 tall], .slice A n c] w fun e w' => e = .returned (.bool true) ∧ Below w.heap.size w w' := by
  have HR := Lib.hid hr
  have HG := Lib.hid hG
  have HB0 := Lib.hid (below2 w (.cells #[.int .i64 (T : Int), .int .i64 (S : Int), .int .i64 (L : Int), .int .u64 G] 24) (.cells #[.int .i64 i, .int .i64 tall] 25))
  have HC := Lib.hid (boxes w (T : Int) (S : Int) (L : Int) G i tall)
  obtain ⟨⟨c_0, c_1, c_2, c_3⟩, c_4, c_5⟩ := HC.out
  clear hr hG
  go_enter Tryd.func3, Tryd.ntmps3
  go_wp2_with fail
  refine (Blank.Make_yes HR.out HG.out _).mono ?_
  rintro e w1 ⟨pc, hb, rfl, m1, p1, h1, b1⟩
  have HB1 := Lib.hid (HB0.out.trans (b1.mono HB0.out.size))
  clear c_0 c_1 c_2 c_3 c_4 c_5
  have HC1 := Lib.hid (HC.out.only (only_below (fun _ => False) b1) ⟨id, id⟩)
  obtain ⟨⟨c_0, c_1, c_2, c_3⟩, c_4, c_5⟩ := HC1.out
  clear b1 m1 p1 h1
  go_upto_region 2 with fail
  go_cut [9, 10] (fun s9 s10 wx => s9 = .int .i64 i ∧ s10 = .int .i64 tall ∧ wx = w1.drew)
  case first =>
    go_region
    all_goals go_wp2_with fail
    all_goals go_meet
    all_goals (case rel => exact ⟨rfl, rfl, rfl⟩)
  obtain ⟨rfl, rfl, rfl⟩ := hcut
  clear c_0 c_1 c_2 c_3 c_4 c_5
  obtain ⟨⟨c_0, c_1, c_2, c_3⟩, c_4, c_5⟩ := HC1.out.only (only_below (fun _ => False) (Below.refl w1.heap.size w1).drew) ⟨id, id⟩
  go_wp2_with fail
  refine (awake_any _).mono ?_
  rintro e w4 ⟨rfl, b4⟩
  go_wp2
  go_ret
  exact ⟨rfl, HB1.out.trans (((Below.refl _ _).drew.trans b4).mono HB1.out.size)⟩
theorem walk_high (T S L : Nat) (G i tall : Int) (hr : rightB (T : Int) (S : Int) (L : Int) G = true) (hG : 0 ≤ G) (A : Option Addr) (n c : Nat) (hn : n ≤ 9223372036854775807) (h0 : ¬ i < 1) (h1 : (S : Int) < i) (w : World) : Calls Tryd.prog 3 #[.agg #[.int .i64 (T : Int), .int .i64 (S : Int), .int .i64 (L : Int), .int .u64 G], .agg #[.int .i64 i, .int .i64 tall], .slice A n c] w fun e w' => e = .returned (.bool true) ∧ Below w.heap.size w w' := by
  have HR := Lib.hid hr
  have HG := Lib.hid hG
  have HB0 := Lib.hid (below2 w (.cells #[.int .i64 (T : Int), .int .i64 (S : Int), .int .i64 (L : Int), .int .u64 G] 24) (.cells #[.int .i64 i, .int .i64 tall] 25))
  have HC := Lib.hid (boxes w (T : Int) (S : Int) (L : Int) G i tall)
  obtain ⟨⟨c_0, c_1, c_2, c_3⟩, c_4, c_5⟩ := HC.out
  clear hr hG
  go_enter Tryd.func3, Tryd.ntmps3
  go_wp2_with fail
  refine (Blank.Make_yes HR.out HG.out _).mono ?_
  rintro e w1 ⟨pc, hb, rfl, m1, p1, h1, b1⟩
  have HB1 := Lib.hid (HB0.out.trans (b1.mono HB0.out.size))
  clear c_0 c_1 c_2 c_3 c_4 c_5
  have HC1 := Lib.hid (HC.out.only (only_below (fun _ => False) b1) ⟨id, id⟩)
  obtain ⟨⟨c_0, c_1, c_2, c_3⟩, c_4, c_5⟩ := HC1.out
  clear b1 m1 p1 h1
  go_upto_region 2 with fail
  go_cut [9, 10] (fun s9 s10 wx => s9 = .int .i64 i ∧ s10 = .int .i64 tall ∧ wx = w1.drew)
  case first =>
    go_region
    all_goals go_wp2_with fail
    all_goals go_meet
    all_goals (case rel => exact ⟨rfl, rfl, rfl⟩)
  obtain ⟨rfl, rfl, rfl⟩ := hcut
  clear c_0 c_1 c_2 c_3 c_4 c_5
  obtain ⟨⟨c_0, c_1, c_2, c_3⟩, c_4, c_5⟩ := HC1.out.only (only_below (fun _ => False) (Below.refl w1.heap.size w1).drew) ⟨id, id⟩
  go_wp2_with fail
  refine (awake_any _).mono ?_
  rintro e w4 ⟨rfl, b4⟩
  go_wp2
  go_ret
  exact ⟨rfl, HB1.out.trans (((Below.refl _ _).drew.trans b4).mono HB1.out.size)⟩
theorem walk_many (T S L : Nat) (G i tall : Int) (hr : rightB (T : Int) (S : Int) (L : Int) G = true) (hG : 0 ≤ G) (A : Option Addr) (n c : Nat) (hn : n ≤ 9223372036854775807) (h0 : ¬ i < 1) (h1 : ¬ (S : Int) < i) (h2 : (100 : Int) < (n : Int)) (w : World) : Calls Tryd.prog 3 #[.agg #[.int .i64 (T : Int), .int .i64 (S : Int), .int .i64 (L : Int), .int .u64 G], .agg #[.int .i64 i, .int .i64 tall], .slice A n c] w fun e w' => e = .returned (.bool true) ∧ Below w.heap.size w w' := by
  have HR := Lib.hid hr
  have HG := Lib.hid hG
  have HB0 := Lib.hid (below2 w (.cells #[.int .i64 (T : Int), .int .i64 (S : Int), .int .i64 (L : Int), .int .u64 G] 24) (.cells #[.int .i64 i, .int .i64 tall] 25))
  have HC := Lib.hid (boxes w (T : Int) (S : Int) (L : Int) G i tall)
  obtain ⟨⟨c_0, c_1, c_2, c_3⟩, c_4, c_5⟩ := HC.out
  clear hr hG
  go_enter Tryd.func3, Tryd.ntmps3
  go_wp2_with fail
  refine (Blank.Make_yes HR.out HG.out _).mono ?_
  rintro e w1 ⟨pc, hb, rfl, m1, p1, h1, b1⟩
  have HB1 := Lib.hid (HB0.out.trans (b1.mono HB0.out.size))
  clear c_0 c_1 c_2 c_3 c_4 c_5
  have HC1 := Lib.hid (HC.out.only (only_below (fun _ => False) b1) ⟨id, id⟩)
  obtain ⟨⟨c_0, c_1, c_2, c_3⟩, c_4, c_5⟩ := HC1.out
  clear b1 m1 p1 h1
  go_upto_region 2 with fail
  go_cut [9, 10] (fun s9 s10 wx => s9 = .int .i64 i ∧ s10 = .int .i64 tall ∧ wx = w1.drew)
  case first =>
    go_region
    all_goals go_wp2_with fail
    all_goals go_meet
    all_goals (case rel => exact ⟨rfl, rfl, rfl⟩)
  obtain ⟨rfl, rfl, rfl⟩ := hcut
  clear c_0 c_1 c_2 c_3 c_4 c_5
  obtain ⟨⟨c_0, c_1, c_2, c_3⟩, c_4, c_5⟩ := HC1.out.only (only_below (fun _ => False) (Below.refl w1.heap.size w1).drew) ⟨id, id⟩
  go_wp2_with fail
  refine (awake_any _).mono ?_
  rintro e w4 ⟨rfl, b4⟩
  go_wp2
  go_ret
  exact ⟨rfl, HB1.out.trans (((Below.refl _ _).drew.trans b4).mono HB1.out.size)⟩

end Go.Proofs.YtpefngpmbladeaaDoor.MarkOut
