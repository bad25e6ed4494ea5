/- BlankFree: for every list of words and every plan p, the free slots that a memory of these words tells are those of the document's answer for layer 10 (of a list of more than 2000 words just the chapter's example is asked); the arguments read as they did. No condition. -/
import Derived.Test.YtaflbjlhmpoonaaBlankAwake
import Derived.Test.YtaflbjlhmpoonaaFour
import Derived.Test.YtaflbjlhmpoonaaFrame
import Derived.Deep.RegionHeld3
namespace Go.Proofs.Ytaflbjlhmpoonaa.BlankFree
open Go.ChangeShapes Go.WideShapes Go.ChangeAt Go.RowKit PM CM SM BM Lay Ints Plan Blank
set_option linter.unusedVariables false

theorem stay {w W : World} {T S L G : Int} (hb : Below (w.heap.size + 1) (w.alloc (.cells #[.int .i64 T, .int .i64 S, .int .i64 L, .int .u64 G] 24)) W) : W.cell? ⟨w.heap.size, 0, none⟩ = some (.int .i64 T) ∧ W.cell? ⟨w.heap.size, 1, none⟩ = some (.int .i64 S) ∧ W.cell? ⟨w.heap.size, 2, none⟩ = some (.int .i64 L) ∧ W.cell? ⟨w.heap.size, 3, none⟩ = some (.int .u64 G) ∧ Below (w.heap.size + 1) (w.alloc (.cells #[.int .i64 T, .int .i64 S, .int .i64 L, .int .u64 G] 24)) W :=
  have ⟨a, b, c, d⟩ := box4_later hb
  ⟨a, b, c, d, hb⟩
theorem both_any (T S L G : Int) (l : List Int) (hfit : BM.Fits l) : ∃ F : List Int, F.length ≤ maxLen ∧
    (∀ (w : World) (p h n : Nat), Cells.Mem w p h n l → Calls Try.prog 14 #[.pointer (some ⟨p, 0, none⟩), .agg #[.int .i64 T, .int .i64 S, .int .i64 L, .int .u64 G]] w (Lists w F)) ∧
    (∀ (w : World) (A : Option Addr) (n c : Nat), n = l.length → n ≤ 1000000 → Row w w.heap.size A (flat (encZ .u64) l) → Calls Try.prog 15 #[.slice A n c, .agg #[.int .i64 T, .int .i64 S, .int .i64 L, .int .u64 G]] w (Lists w F)) := by
  cases h : rightB T S L G
  · exact ⟨[], by decide, fun w p h' n hM => Free_no h _ w, fun w A n c _ _ _ => BlankRef.Free_no h A n c w⟩
  · have hr := right_is h
    obtain ⟨a, rfl⟩ := Int.eq_ofNat_of_zero_le (show 0 ≤ T by omega)
    obtain ⟨b, rfl⟩ := Int.eq_ofNat_of_zero_le (show 0 ≤ S by omega)
    obtain ⟨c, rfl⟩ := Int.eq_ofNat_of_zero_le (show 0 ≤ L by omega)
    refine ⟨freeL a b c l, ?_, fun w p h' n hM => Free_yes h hM hfit, fun w A n c' hn hl hR => BlankRef.Free_yes h c' hn hl hR hfit⟩
    have := free_length (a : Int) b (c : Int) l
    simp only [maxLen]
    omega

set_option maxHeartbeats 1000000 in
theorem walk (A : Option Addr) (l : List Int) (c : Nat) (x : Int × Int × Int × Int) (_ : (Lit.int .i64 x.1).wf = true) (_ : (Lit.int .i64 x.2.1).wf = true) (_ : (Lit.int .i64 x.2.2.1).wf = true) (_ : (Lit.int .u64 x.2.2.2).wf = true) (w : World)
    (hR : Row w w.heap.size A (flat (encZ .u64) l)) (hl : l.length ≤ maxLen) (hw : ∀ x ∈ l, (Lit.int .u64 x).wf = true) :
    Calls Try.prog 4 #[.slice A l.length c, .agg #[.int .i64 x.1, .int .i64 x.2.1, .int .i64 x.2.2.1, .int .u64 x.2.2.2]] w fun e w' => e = .returned (.bool true) ∧ Below w.heap.size w w' := by
  obtain ⟨F, hFl, hp, hrf⟩ := both_any x.1 x.2.1 x.2.2.1 x.2.2.2 l (fun y hy => Law10.wf_u64 (hw y hy))
  have HFL := Lib.hid hFl
  have HP := Lib.hid hp
  have HRF := Lib.hid hrf
  obtain ⟨T, S, L, G⟩ := x
  simp only at HP HRF ⊢
  obtain ⟨n, hn⟩ : ∃ n, n = l.length := ⟨_, rfl⟩
  unfold maxLen at hl
  rw [← hn] at hl ⊢
  have HN := Lib.hid hn
  have HROW := Lib.hid hR
  have HBOX := Lib.hid (box_below w (.cells #[.int .i64 T, .int .i64 S, .int .i64 L, .int .u64 G] 24))
  clear hn hR hFl hp hrf hw
  by_cases hbig : 2000 < n
  · go_enter Try.func4, Try.ntmps4
    go_wp2_with fail
    refine (Law10.awake_any _).mono ?_
    rintro e w' ⟨rfl, hb⟩
    go_wp2
    go_ret
    exact ⟨rfl, HBOX.out.trans (hb.mono (by simp))⟩
  · have hfit : n ≤ 4096 := by omega
    have HN6 := Lib.hid (show n ≤ 1000000 by omega)
    go_enter Try.func4, Try.ntmps4
    go_wp2_with fail
    refine (Cells.Of_any (HROW.out.later HBOX.out) HN.out hfit).mono ?_
    rintro e w1 ⟨p, h, rfl, m1, p1, h1, b1⟩
    simp only [World.size_alloc] at b1
    have M1 := Lib.hid m1
    have B1 := Lib.hid b1
    clear m1 p1 h1 b1
    go_wp2
    go_region_held3 (fun W => W.cell? ⟨w.heap.size, 0, none⟩ = some (.int .i64 T) ∧ W.cell? ⟨w.heap.size, 1, none⟩ = some (.int .i64 S) ∧ W.cell? ⟨w.heap.size, 2, none⟩ = some (.int .i64 L) ∧ W.cell? ⟨w.heap.size, 3, none⟩ = some (.int .u64 G) ∧ Below (w.heap.size + 1) (w.alloc (.cells #[.int .i64 T, .int .i64 S, .int .i64 L, .int .u64 G] 24)) W)
      ((first | (with_reducible exact stay B1.out.drew) | (with_reducible exact stay B2.out) | (with_reducible exact stay B3.out) | (with_reducible exact stay B4.out) | (with_reducible exact stay B5.out)))
      (first
        | (go_at_call 14; refine (HP.out _ p h n (M1.out.later (Below.refl _ _).drew)).mono ?_; rintro e w2 ⟨A2, c2, rfl, r2, b2⟩; have R2 := Lib.hid r2; have B2 := Lib.hid (past_later B1.out.drew b2); clear r2 b2)
        | (go_at_call 15; refine (HRF.out _ A n c HN.out HN6.out (HROW.out.later (below_past B2.out))).mono ?_; rintro e w3 ⟨A3, c3, rfl, r3, b3⟩; have R3 := Lib.hid r3; have R2' := Lib.hid (R2.out.later b3); have B3 := Lib.hid (past_later B2.out b3); clear r3 b3)
        | (go_at_call 13; refine (DrawRef.Same_yes rfl rfl R2'.out R3.out HFL.out).mono ?_; rintro e w4 ⟨rfl, b4⟩; have B4 := Lib.hid (past_later B3.out b4); clear b4)
        | (go_at_call 8; refine (Law10.awake_any _).mono ?_; rintro e w5 ⟨rfl, b5⟩; have B5 := Lib.hid (past_later B4.out b5); clear b5))
    go_wp2
    go_ret
    exact ⟨rfl, below_past B5.out⟩
theorem laidOut : laidOutB Try.prog = true := by kernel_rfl
theorem own : ownKnob Try.prog.godebug = none := by kernel_rfl
theorem lifted (os : Os) (started : os.Started) (H : Type) (enc : TypeId × Value → H) :
    ReturnsInHanded {} Try.checked os 4 .any (Rows.blankFreeSpec.pre6 enc Try.prog Try.f4 Rows.blankFreeRow.domain false) (Rows.blankFreeSpec.post enc Try.prog Try.f4 false true false false) := by
  refine Frame.lifted (C := Try.checked) (fn := Try.f4) (tb := 4) own started (by kernel_rfl) Try.func4
    (ChangeSpec.witness6 (enc := enc) (C := Try.checked) false ⟨#[], #[.slice none 0 0, .agg #[.int .i64 0, .int .i64 0, .int .i64 0, .int .u64 0]], []⟩ 8 (by kernel_rfl) (by kernel_rfl) (by kernel_rfl) (by kernel_rfl))
    rfl rfl Try.underlying4 laidOut (by kernel_rfl) (fun ds h => by match ds, h with | [_, _], _ => rfl) ?_
  intro W base args ds ps hval0 hA0 hlt
  have hval : ∀ (j : Nat) t v, Try.f4.params[j]? = some t → args[j]? = some v → Value.okWide Try.prog W .any base t v := hval0
  have hA : DataW.TrodAll enc Try.prog W 0 (fun _ => true) true Try.f4.params.toList args.toList ds ps := hA0
  rw [Try.params4] at hA hval
  obtain ⟨v0, vs0, d0, ds0, p0, q0, hargs, rfl, rfl, h0, r0⟩ := trodAll_cons hA
  obtain ⟨v1, vs1, d1, ds1, p1, q1, rfl, rfl, rfl, h1, r1⟩ := trodAll_cons r0
  obtain ⟨rfl, rfl, rfl⟩ := trodAll_nil r1
  obtain rfl : args = #[v0, v1] := by cases args; simp_all
  obtain ⟨A0, x0, c0, rfl, b0, m0, R0, g0⟩ := Open.open_rows (k := 1) (Ints.encZ .u64) (fun x => (Lit.int .u64 x).wf = true) Try.underlying32 (by kernel_rfl) (by decide) (Ints.encZ_length _) (fun n cs y h hl => Ints.one_int Try.underlying22 n cs y h hl) (hval 0 32 v0 rfl rfl) h0
  obtain ⟨x1, rfl, w1_0, w1_1, w1_2, w1_3⟩ := Open.open_four_ints Try.underlying24 (by kernel_rfl) (by kernel_rfl) Try.underlying3 Try.underlying3 Try.underlying3 Try.underlying22 (hval 1 24 v1 rfl rfl) h1
  refine (walk A0 x0 c0 x1 w1_0 w1_1 w1_2 w1_3 W R0 (Nat.le_trans b0 m0) g0).mono fun e W' h => ?_
  exact h

theorem over : Rows.blankFreeRow.holds Try.pinned (OpenSpec.ofChange Rows.blankFreeSpec) :=
  OpenClaim.holds_of_wide 4 Try.f4 rfl rfl rfl rfl rfl rfl rfl ⟨rfl, rfl, rfl, rfl, rfl⟩ rfl rfl rfl rfl rfl (by kernel_rfl) Try.func4 (by kernel_rfl)
    (of_decide_eq_true (by kernel_rfl)) (by unfold Func.isWrapper; first | (rw [if_pos (by decide +kernel)]; kernel_rfl) | (rw [if_neg (by decide +kernel)]; exact ⟨rfl, rfl⟩))
    (fun os started H enc _ => lifted os started H enc)

theorem proved : Rows.BlankFreeSaid := over
#print axioms proved
end Go.Proofs.Ytaflbjlhmpoonaa.BlankFree
