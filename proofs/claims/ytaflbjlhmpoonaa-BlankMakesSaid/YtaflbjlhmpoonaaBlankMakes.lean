/- BlankMakes: for every plan p, if it is right, the memory that Make makes has the words of the document's answer for layer 10, else there is none, and the error is ErrPlan; and the chapter's example comes out; p reads as it did. No condition. -/
import Derived.Test.YtaflbjlhmpoonaaBlankAwake
import Derived.Test.YtaflbjlhmpoonaaFour
import Derived.Test.YtaflbjlhmpoonaaFrame
import Derived.Deep.RegionHeld3
namespace Go.Proofs.Ytaflbjlhmpoonaa.BlankMakes
open Go.ChangeShapes Go.WideShapes Go.ChangeAt Go.RowKit PM CM SM BM Lay Ints Plan Blank
set_option linter.unusedVariables false

theorem walk_no (T S L G : Int) (h : rightB T S L G = false) (w : World) :
    Calls Try.prog 3 #[.agg #[.int .i64 T, .int .i64 S, .int .i64 L, .int .u64 G]] w fun e w' => e = .returned (.bool true) ∧ Below w.heap.size w w' := by
  have HN := Lib.hid h
  obtain ⟨c_0, c_1, c_2, c_3⟩ := box4 w (.int .i64 T) (.int .i64 S) (.int .i64 L) (.int .u64 G) 24
  clear h
  go_enter Try.func3, Try.ntmps3
  go_wp2_with fail
  refine (Make_no HN.out _).mono ?_
  rintro e w1 ⟨rfl, b1⟩
  simp only [World.size_alloc] at b1
  have B1 := Lib.hid b1
  clear b1 c_0 c_1 c_2 c_3
  obtain ⟨c_0, c_1, c_2, c_3⟩ := box4_later B1.out
  go_wp2_with fail
  refine (PlanRef.Right_no HN.out _).mono ?_
  rintro e w2 ⟨rfl, b2⟩
  have B2 := Lib.hid (past_later B1.out b2)
  clear b2 c_0 c_1 c_2 c_3
  go_wp2_with fail
  refine (Law10.awake_any _).mono ?_
  rintro e w3 ⟨rfl, b3⟩
  go_wp2
  go_ret
  exact ⟨rfl, below_past (past_later B2.out b3)⟩

theorem stay {w W : World} {T S L : Nat} {G : Int} (hb : Below (w.heap.size + 1) (w.alloc (.cells #[.int .i64 (T : Int), .int .i64 (S : Int), .int .i64 (L : Int), .int .u64 G] 24)) W) : W.cell? ⟨w.heap.size, 0, none⟩ = some (.int .i64 (T : Int)) ∧ W.cell? ⟨w.heap.size, 1, none⟩ = some (.int .i64 (S : Int)) ∧ W.cell? ⟨w.heap.size, 2, none⟩ = some (.int .i64 (L : Int)) ∧ W.cell? ⟨w.heap.size, 3, none⟩ = some (.int .u64 G) ∧ Below (w.heap.size + 1) (w.alloc (.cells #[.int .i64 (T : Int), .int .i64 (S : Int), .int .i64 (L : Int), .int .u64 G] 24)) W :=
  have ⟨a, b, c, d⟩ := box4_later hb
  ⟨a, b, c, d, hb⟩
/-- Make and the document's Words speak of one list. -/
theorem both_any {T S L : Nat} {G : Int} (hr : rightB (T : Int) (S : Int) (L : Int) G = true) (hG : 0 ≤ G) : ∃ (n : Nat) (l : List Int), n = l.length ∧ l.length ≤ maxLen ∧
    (∀ w : World, Calls Try.prog 6 #[.agg #[.int .i64 (T : Int), .int .i64 (S : Int), .int .i64 (L : Int), .int .u64 G]] w fun e w' => ∃ p h, e = .returned (.tuple #[.pointer (some ⟨p, 0, none⟩), .int .i64 0]) ∧ Cells.Makes w n l w' p h) ∧
    (∀ w : World, Calls Try.prog 11 #[.agg #[.int .i64 (T : Int), .int .i64 (S : Int), .int .i64 (L : Int), .int .u64 G]] w (BlankRef.Words w n l)) := by
  obtain ⟨t1, t8, s1, s64, l1, l8⟩ := right_nat hr
  have hm := words_small t8 s64 l8
  refine ⟨_, _, (lay_length _ _ _ _ _ _).symm, ?_, fun w => Make_yes hr hG w, fun w => BlankRef.Words_yes hr hG w⟩
  rw [lay_length]
  simp only [maxLen]
  omega

set_option maxHeartbeats 1000000 in
theorem walk_yes (T S L : Nat) (G : Int) (hr : rightB (T : Int) (S : Int) (L : Int) G = true) (hG : 0 ≤ G) (w : World) :
    Calls Try.prog 3 #[.agg #[.int .i64 (T : Int), .int .i64 (S : Int), .int .i64 (L : Int), .int .u64 G]] w fun e w' => e = .returned (.bool true) ∧ Below w.heap.size w w' := by
  obtain ⟨n, l, hn, hl, hmk, hwd⟩ := both_any hr hG
  have HR := Lib.hid hr
  have HN := Lib.hid hn
  have HL := Lib.hid hl
  have HMK := Lib.hid hmk
  have HWD := Lib.hid hwd
  obtain ⟨c_0, c_1, c_2, c_3⟩ := box4 w (.int .i64 (T : Int)) (.int .i64 (S : Int)) (.int .i64 (L : Int)) (.int .u64 G) 24
  clear hr hG hn hl hmk hwd
  go_enter Try.func3, Try.ntmps3
  go_wp2_with fail
  refine (HMK.out _).mono ?_
  rintro e w1 ⟨p, h, rfl, m1, p1, h1, b1⟩
  simp only [World.size_alloc] at b1
  have M1 := Lib.hid m1
  have B1 := Lib.hid b1
  clear m1 p1 h1 b1 c_0 c_1 c_2 c_3
  obtain ⟨c_0, c_1, c_2, c_3⟩ := box4_later B1.out
  go_wp2_with fail
  refine (PlanRef.Right_yes HR.out _).mono ?_
  rintro e w2 ⟨rfl, b2⟩
  have M2 := Lib.hid (M1.out.later b2)
  have B2 := Lib.hid (past_later B1.out b2)
  clear b2 c_0 c_1 c_2 c_3
  go_wp2
  go_region_held3 (fun W => W.cell? ⟨w.heap.size, 0, none⟩ = some (.int .i64 (T : Int)) ∧ W.cell? ⟨w.heap.size, 1, none⟩ = some (.int .i64 (S : Int)) ∧ W.cell? ⟨w.heap.size, 2, none⟩ = some (.int .i64 (L : Int)) ∧ W.cell? ⟨w.heap.size, 3, none⟩ = some (.int .u64 G) ∧ Below (w.heap.size + 1) (w.alloc (.cells #[.int .i64 (T : Int), .int .i64 (S : Int), .int .i64 (L : Int), .int .u64 G] 24)) W)
    ((first | (with_reducible exact stay B2.out.drew) | (with_reducible exact stay B3.out) | (with_reducible exact stay B4.out) | (with_reducible exact stay B5.out) | (with_reducible exact stay B6.out)))
    (first
      | (go_at_call 10; refine (Cells.Words_any (M2.out.later (Below.refl _ _).drew)).mono ?_; rintro e w3 ⟨rfl, o3, b3⟩; have R3 := Lib.hid (Row.of_own o3); have B3 := Lib.hid (past_later B2.out.drew b3); clear o3 b3)
      | (go_at_call 11; refine (HWD.out _).mono ?_; rintro e w4 ⟨A4, c4, rfl, r4, b4⟩; have R4 := Lib.hid r4; have R3' := Lib.hid (R3.out.later b4); have B4 := Lib.hid (past_later B3.out b4); clear r4 b4)
      | (go_at_call 9; refine (CellsRef.Same_yes HN.out HN.out R3'.out R4.out HL.out).mono ?_; rintro e w5 ⟨rfl, b5⟩; have B5 := Lib.hid (past_later B4.out b5); clear b5)
      | (go_at_call 8; refine (Law10.awake_any _).mono ?_; rintro e w6 ⟨rfl, b6⟩; have B6 := Lib.hid (past_later B5.out b6); clear b6))
  go_wp2
  go_ret
  exact ⟨rfl, below_past B6.out⟩

theorem walk (x : Int × Int × Int × Int) (_ : (Lit.int .i64 x.1).wf = true) (_ : (Lit.int .i64 x.2.1).wf = true) (_ : (Lit.int .i64 x.2.2.1).wf = true) (hg : (Lit.int .u64 x.2.2.2).wf = true) (w : World) :
    Calls Try.prog 3 #[.agg #[.int .i64 x.1, .int .i64 x.2.1, .int .i64 x.2.2.1, .int .u64 x.2.2.2]] w fun e w' => e = .returned (.bool true) ∧ Below w.heap.size w w' := by
  cases h : rightB x.1 x.2.1 x.2.2.1 x.2.2.2
  · exact walk_no _ _ _ _ h w
  · obtain ⟨T, S, L, G⟩ := x
    have hr := right_is h
    obtain ⟨a, rfl⟩ := Int.eq_ofNat_of_zero_le (show 0 ≤ T by have := hr.1; simp at this; omega)
    obtain ⟨b, rfl⟩ := Int.eq_ofNat_of_zero_le (show 0 ≤ S by have := hr.2.2.1; simp at this; omega)
    obtain ⟨c, rfl⟩ := Int.eq_ofNat_of_zero_le (show 0 ≤ L by have := hr.2.2.2.2.1; simp at this; omega)
    exact walk_yes a b c G h (Law10.wf_u64 hg).1 w
theorem laidOut : laidOutB Try.prog = true := by kernel_rfl
theorem own : ownKnob Try.prog.godebug = none := by kernel_rfl
theorem lifted (os : Os) (started : os.Started) (H : Type) (enc : TypeId × Value → H) :
    ReturnsInHanded {} Try.checked os 3 .any (Rows.blankMakesSpec.pre6 enc Try.prog Try.f3 Rows.blankMakesRow.domain false) (Rows.blankMakesSpec.post enc Try.prog Try.f3 false true false false) := by
  refine Frame.lifted (C := Try.checked) (fn := Try.f3) (tb := 4) own started (by kernel_rfl) Try.func3
    (ChangeSpec.witness6 (enc := enc) (C := Try.checked) false ⟨#[], #[.agg #[.int .i64 0, .int .i64 0, .int .i64 0, .int .u64 0]], []⟩ 8 (by kernel_rfl) (by kernel_rfl) (by kernel_rfl) (by kernel_rfl))
    rfl rfl Try.underlying4 laidOut (by kernel_rfl) (fun ds h => by match ds, h with | [_], _ => rfl) ?_
  intro W base args ds ps hval0 hA0 hlt
  have hval : ∀ (j : Nat) t v, Try.f3.params[j]? = some t → args[j]? = some v → Value.okWide Try.prog W .any base t v := hval0
  have hA : DataW.TrodAll enc Try.prog W 0 (fun _ => true) true Try.f3.params.toList args.toList ds ps := hA0
  rw [Try.params3] at hA hval
  obtain ⟨v0, vs0, d0, ds0, p0, q0, hargs, rfl, rfl, h0, r0⟩ := trodAll_cons hA
  obtain ⟨rfl, rfl, rfl⟩ := trodAll_nil r0
  obtain rfl : args = #[v0] := by cases args; simp_all
  obtain ⟨x0, rfl, w0_0, w0_1, w0_2, w0_3⟩ := Open.open_four_ints Try.underlying24 (by kernel_rfl) (by kernel_rfl) Try.underlying3 Try.underlying3 Try.underlying3 Try.underlying22 (hval 0 24 v0 rfl rfl) h0
  refine (walk x0 w0_0 w0_1 w0_2 w0_3 W).mono fun e W' h => ?_
  exact h

theorem over : Rows.blankMakesRow.holds Try.pinned (OpenSpec.ofChange Rows.blankMakesSpec) :=
  OpenClaim.holds_of_wide 3 Try.f3 rfl rfl rfl rfl rfl rfl rfl ⟨rfl, rfl, rfl, rfl, rfl⟩ rfl rfl rfl rfl rfl (by kernel_rfl) Try.func3 (by kernel_rfl)
    (of_decide_eq_true (by kernel_rfl)) (by unfold Func.isWrapper; first | (rw [if_pos (by decide +kernel)]; kernel_rfl) | (rw [if_neg (by decide +kernel)]; exact ⟨rfl, rfl⟩))
    (fun os started H enc _ => lifted os started H enc)

theorem proved : Rows.BlankMakesSaid := over
#print axioms proved
end Go.Proofs.Ytaflbjlhmpoonaa.BlankMakes
