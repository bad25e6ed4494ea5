/- BlankAll: for every plan p, at the beginning each slot is free once, from slot 1 on, each below the one ahead; of a plan that is not right none is free; and the chapter's example comes out; p reads as it did. No condition. -/
import Derived.Test.YtaflbjlhmpoonaaBlankAwake
import Derived.Test.YtaflbjlhmpoonaaFour
import Derived.Test.YtaflbjlhmpoonaaFrame
namespace Go.Proofs.Ytaflbjlhmpoonaa.BlankAll
open Go.ChangeShapes Go.WideShapes Go.ChangeAt Go.RowKit PM CM SM BM Lay Ints Plan Blank
set_option linter.unusedVariables false

theorem walk_no (T S L G : Int) (h : rightB T S L G = false) (w : World) :
    Calls Try.prog 5 #[.agg #[.int .i64 T, .int .i64 S, .int .i64 L, .int .u64 G]] w fun e w' => e = .returned (.bool true) ∧ Below w.heap.size w w' := by
  have HN := Lib.hid h
  obtain ⟨c_0, c_1, c_2, c_3⟩ := box4 w (.int .i64 T) (.int .i64 S) (.int .i64 L) (.int .u64 G) 24
  clear h
  go_enter Try.func5, Try.ntmps5
  go_wp2_with fail
  refine (Make_no HN.out _).mono ?_
  rintro e w1 ⟨rfl, b1⟩
  simp only [World.size_alloc] at b1
  have B1 := Lib.hid b1
  clear b1 c_0 c_1 c_2 c_3
  obtain ⟨c_0, c_1, c_2, c_3⟩ := box4_later B1.out
  go_wp2_with fail
  refine (Free_no HN.out none _).mono ?_
  rintro e w2 ⟨A, c, rfl, _, b2⟩
  have B2 := Lib.hid (past_later B1.out b2)
  clear b2 c_0 c_1 c_2 c_3
  go_wp2_with fail
  refine (Law10.awake_any _).mono ?_
  rintro e w3 ⟨rfl, b3⟩
  go_wp2
  go_ret
  exact ⟨rfl, below_past (past_later B2.out b3)⟩

set_option maxHeartbeats 1000000 in
theorem walk_yes (T S L : Nat) (G : Int) (hr : rightB (T : Int) (S : Int) (L : Int) G = true) (hG : 0 ≤ G) (w : World) :
    Calls Try.prog 5 #[.agg #[.int .i64 (T : Int), .int .i64 (S : Int), .int .i64 (L : Int), .int .u64 G]] w fun e w' => e = .returned (.bool true) ∧ Below w.heap.size w w' := by
  have HR := Lib.hid hr
  have HG := Lib.hid hG
  have s64 : S ≤ 64 := (right_nat hr).2.2.2.1
  obtain ⟨c_0, c_1, c_2, c_3⟩ := box4 w (.int .i64 (T : Int)) (.int .i64 (S : Int)) (.int .i64 (L : Int)) (.int .u64 G) 24
  clear hr hG
  go_enter Try.func5, Try.ntmps5
  go_wp2_with fail
  refine (Law10.Make_begins HR.out HG.out _).mono ?_
  rintro e w1 ⟨p, h, n, l, rfl, m1, f1, r1, b1⟩
  simp only [World.size_alloc] at b1
  have M1 := Lib.hid m1
  have F1 := Lib.hid f1
  have R1 := Lib.hid r1
  have B1 := Lib.hid b1
  clear m1 f1 r1 b1 c_0 c_1 c_2 c_3
  obtain ⟨c_0, c_1, c_2, c_3⟩ := box4_later B1.out
  go_wp2_with fail
  refine (Law10.Free_is R1.out HR.out M1.out F1.out).mono ?_
  rintro e w2 ⟨A, c, rfl, r2, b2⟩
  rw [first_length]
  have R2 := Lib.hid r2
  have B2 := Lib.hid (past_later B1.out b2)
  clear r2 b2 c_0 c_1 c_2 c_3
  obtain ⟨c_0, c_1, c_2, c_3⟩ := box4_later B2.out
  go_wp2
  clear c_0 c_1 c_2 c_3
  go_loopw [6] (fun iv wr => ∃ k : Nat, k ≤ S ∧ iv = .int .i64 k ∧ w2 = wr)
    (fun iv _ => S - (intOf iv).toNat)
  case atStart => exact ⟨0, Nat.zero_le _, rfl, rfl⟩
  case round =>
    obtain ⟨k, hk, rfl, rfl⟩ := hrel
    by_cases hlt : k < S
    · obtain ⟨bl, o, rfl, _, hc⟩ := int_at R2.out (show k < (firstL S).length by rw [first_length]; exact hlt)
      have d := hc k _ (first_get hlt)
      clear hc
      go_wp2
      go_roundw
      case rel => exact ⟨k + 1, by omega, by go_num, trivial⟩
      case measure => simp [intOf]; omega
    · go_wp2_with fail
      refine (Law10.awake_any _).mono ?_
      rintro e w3 ⟨rfl, b3⟩
      go_wp2
      go_ret
      exact ⟨rfl, below_past (past_later B2.out b3)⟩

theorem walk (x : Int × Int × Int × Int) (_ : (Lit.int .i64 x.1).wf = true) (_ : (Lit.int .i64 x.2.1).wf = true) (_ : (Lit.int .i64 x.2.2.1).wf = true) (hg : (Lit.int .u64 x.2.2.2).wf = true) (w : World) :
    Calls Try.prog 5 #[.agg #[.int .i64 x.1, .int .i64 x.2.1, .int .i64 x.2.2.1, .int .u64 x.2.2.2]] w fun e w' => e = .returned (.bool true) ∧ Below w.heap.size w w' := by
  cases h : rightB x.1 x.2.1 x.2.2.1 x.2.2.2
  · exact walk_no _ _ _ _ h w
  · obtain ⟨T, S, L, G⟩ := x
    have hr := right_is h
    obtain ⟨a, rfl⟩ := Int.eq_ofNat_of_zero_le (show 0 ≤ T by have := hr.1; simp at this; omega)
    obtain ⟨b, rfl⟩ := Int.eq_ofNat_of_zero_le (show 0 ≤ S by have := hr.2.2.1; simp at this; omega)
    obtain ⟨c, rfl⟩ := Int.eq_ofNat_of_zero_le (show 0 ≤ L by have := hr.2.2.2.2.1; simp at this; omega)
    exact walk_yes a b c G h (Law10.wf_u64 hg).1 w
theorem laidOut : laidOutB Try.prog = true := by kernel_rfl
theorem own : ownKnob Try.prog.godebug = none := by kernel_rfl
theorem lifted (os : Os) (started : os.Started) (H : Type) (enc : TypeId × Value → H) :
    ReturnsInHanded {} Try.checked os 5 .any (Rows.blankAllSpec.pre6 enc Try.prog Try.f5 Rows.blankAllRow.domain false) (Rows.blankAllSpec.post enc Try.prog Try.f5 false true false false) := by
  refine Frame.lifted (C := Try.checked) (fn := Try.f5) (tb := 4) own started (by kernel_rfl) Try.func5
    (ChangeSpec.witness6 (enc := enc) (C := Try.checked) false ⟨#[], #[.agg #[.int .i64 0, .int .i64 0, .int .i64 0, .int .u64 0]], []⟩ 8 (by kernel_rfl) (by kernel_rfl) (by kernel_rfl) (by kernel_rfl))
    rfl rfl Try.underlying4 laidOut (by kernel_rfl) (fun ds h => by match ds, h with | [_], _ => rfl) ?_
  intro W base args ds ps hval0 hA0 hlt
  have hval : ∀ (j : Nat) t v, Try.f5.params[j]? = some t → args[j]? = some v → Value.okWide Try.prog W .any base t v := hval0
  have hA : DataW.TrodAll enc Try.prog W 0 (fun _ => true) true Try.f5.params.toList args.toList ds ps := hA0
  rw [Try.params5] at hA hval
  obtain ⟨v0, vs0, d0, ds0, p0, q0, hargs, rfl, rfl, h0, r0⟩ := trodAll_cons hA
  obtain ⟨rfl, rfl, rfl⟩ := trodAll_nil r0
  obtain rfl : args = #[v0] := by cases args; simp_all
  obtain ⟨x0, rfl, w0_0, w0_1, w0_2, w0_3⟩ := Open.open_four_ints Try.underlying24 (by kernel_rfl) (by kernel_rfl) Try.underlying3 Try.underlying3 Try.underlying3 Try.underlying22 (hval 0 24 v0 rfl rfl) h0
  refine (walk x0 w0_0 w0_1 w0_2 w0_3 W).mono fun e W' h => ?_
  exact h

theorem over : Rows.blankAllRow.holds Try.pinned (OpenSpec.ofChange Rows.blankAllSpec) :=
  OpenClaim.holds_of_wide 5 Try.f5 rfl rfl rfl rfl rfl rfl rfl ⟨rfl, rfl, rfl, rfl, rfl⟩ rfl rfl rfl rfl rfl (by kernel_rfl) Try.func5 (by kernel_rfl)
    (of_decide_eq_true (by kernel_rfl)) (by unfold Func.isWrapper; first | (rw [if_pos (by decide +kernel)]; kernel_rfl) | (rw [if_neg (by decide +kernel)]; exact ⟨rfl, rfl⟩))
    (fun os started H enc _ => lifted os started H enc)

theorem proved : Rows.BlankAllSaid := over
#print axioms proved
end Go.Proofs.Ytaflbjlhmpoonaa.BlankAll
