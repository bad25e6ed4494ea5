/- DrawTells: for every list of numbers l, every number n and every count of levels, the height that n draws, those that the numbers of l draw, and how many of them draw each height, are what the document's answer for layer 5 tells (of a list of more than 500 numbers just the chapter's examples are asked); the arguments read as they did. No condition. -/
import Derived.Test.YtglidneeccaikaaFrame
import Derived.Test.YtglidneeccaikaaDrawAwake
import Derived.Test.YtglidneeccaikaaDrawRef
namespace Go.Proofs.Ytglidneeccaikaa.DrawTells
open Go.ChangeShapes Go.WideShapes Go.ChangeAt Go.RowKit DM Lay Ints Draw
open Go.Proofs.Ytglidneeccaikaa.Law05 (wf_u64 wf_i64)

set_option maxHeartbeats 1000000 in
theorem walk (A : Option Addr) (l : List Int) (c : Nat) (v lv : Int) (wv : (Lit.int .u64 v).wf = true) (_ : (Lit.int .i64 lv).wf = true) (w : World)
    (hR : Row w w.heap.size A (flat (encZ .u64) l)) (_ : l.length ≤ maxLen) (hf : ∀ x ∈ l, (Lit.int .u64 x).wf = true) :
    Calls Try.prog 3 #[.slice A l.length c, .int .u64 v, .int .i64 lv] w fun e w' => e = .returned (.bool true) ∧ Below w.heap.size w w' := by
  obtain ⟨v0, v1⟩ := wf_u64 wv
  have HV := Lib.hid (show Fits l from fun x hx => wf_u64 (hf x hx))
  have HR := Lib.hid hR
  clear wv hf hR
  by_cases hbig : 500 < l.length
  · go_enter Try.func3, Try.ntmps3
    go_wp2_with fail
    refine (Law05.awake_any _).mono ?_
    rintro e w' ⟨rfl, rfl⟩
    go_wp2
    go_ret
    exact ⟨rfl, Below.refl _ _⟩
  · have HL := Lib.hid (show l.length ≤ 1000000 by omega)
    have HM := Lib.hid (show (l.map (heightI · lv)).length ≤ maxLen by rw [List.length_map]; simp only [maxLen]; omega)
    have HC := Lib.hid (show (counts l (levelsN lv : Nat) (levelsN lv)).length ≤ maxLen by rw [counts_length]; have := levels_le lv; simp only [maxLen]; omega)
    go_enter Try.func3, Try.ntmps3
    go_wp2_with fail
    refine (Draw.Height_any v lv v0 v1 _).mono ?_
    rintro e w' ⟨rfl, rfl⟩
    go_wp2_with fail
    refine (DrawRef.Height_any v lv v0 v1 _).mono ?_
    rintro e w' ⟨rfl, rfl⟩
    go_wp2_with fail
    refine (Draw.Row_any A l c lv _ HR.out HL.out HV.out).mono ?_
    rintro e w' ⟨A1, c1, rfl, r1, b1⟩
    go_wp2_with fail
    refine (DrawRef.Row_any A l c lv _ (HR.out.later b1) HL.out HV.out).mono ?_
    rintro e w' ⟨A2, c2, rfl, r2, b2⟩
    go_wp2_with fail
    refine (DrawRef.Same_yes (l := l.map (heightI · lv)) (List.length_map _).symm (List.length_map _).symm (r1.later b2) r2 HM.out).mono ?_
    rintro e w' ⟨rfl, b3⟩
    have hb := (b1.trans (b2.mono b1.size)).trans (b3.mono (Nat.le_trans b1.size b2.size))
    have HB := Lib.hid hb
    clear hb b1 b2 b3 r1 r2
    go_wp2_with fail
    refine (Draw.Count_any A l c lv _ (HR.out.later HB.out) HL.out HV.out).mono ?_
    rintro e w' ⟨A4, c4, rfl, r4, b4⟩
    go_wp2_with fail
    refine (DrawRef.Count_any A l c lv _ ((HR.out.later HB.out).later b4) HL.out HV.out).mono ?_
    rintro e w' ⟨A5, c5, rfl, r5, b5⟩
    go_wp2_with fail
    refine (DrawRef.Same_yes (l := counts l (levelsN lv : Nat) (levelsN lv)) rfl rfl (r4.later b5) r5 HC.out).mono ?_
    rintro e w' ⟨rfl, b6⟩
    have hb2 := (b4.trans (b5.mono b4.size)).trans (b6.mono (Nat.le_trans b4.size b5.size))
    have HB2 := Lib.hid (HB.out.trans (hb2.mono HB.out.size))
    clear hb2 b4 b5 b6 r4 r5
    go_wp2_with fail
    refine (Law05.awake_any _).mono ?_
    rintro e w' ⟨rfl, rfl⟩
    go_wp2
    go_ret
    exact ⟨rfl, HB2.out⟩
theorem laidOut : laidOutB Try.prog = true := by kernel_rfl
theorem own : ownKnob Try.prog.godebug = none := by kernel_rfl
theorem lifted (os : Os) (started : os.Started) (H : Type) (enc : TypeId × Value → H) :
    ReturnsInHanded {} Try.checked os 3 .any (Rows.drawTellsSpec.pre6 enc Try.prog Try.f3 Rows.drawTellsRow.domain false) (Rows.drawTellsSpec.post enc Try.prog Try.f3 false true false false) := by
  refine Frame.lifted (C := Try.checked) (fn := Try.f3) (tb := 4) own started (by kernel_rfl) Try.func3
    (ChangeSpec.witness6 (enc := enc) (C := Try.checked) false ⟨#[], #[.slice none 0 0, .int .u64 0, .int .i64 0], []⟩ 8 (by kernel_rfl) (by kernel_rfl) (by kernel_rfl) (by kernel_rfl))
    rfl rfl Try.underlying4 laidOut (by kernel_rfl) (fun ds h => by match ds, h with | [_, _, _], _ => rfl) ?_
  intro W base args ds ps hval0 hA0 hlt
  have hval : ∀ (j : Nat) t v, Try.f3.params[j]? = some t → args[j]? = some v → Value.okWide Try.prog W .any base t v := hval0
  have hA : DataW.TrodAll enc Try.prog W 0 (fun _ => true) true Try.f3.params.toList args.toList ds ps := hA0
  rw [Try.params3] at hA hval
  obtain ⟨v0, vs0, d0, ds0, p0, q0, hargs, rfl, rfl, h0, r0⟩ := trodAll_cons hA
  obtain ⟨v1, vs1, d1, ds1, p1, q1, rfl, rfl, rfl, h1, r1⟩ := trodAll_cons r0
  obtain ⟨v2, vs2, d2, ds2, p2, q2, rfl, rfl, rfl, h2, r2⟩ := trodAll_cons r1
  obtain ⟨rfl, rfl, rfl⟩ := trodAll_nil r2
  obtain rfl : args = #[v0, v1, v2] := by cases args; simp_all
  obtain ⟨A0, x0, c0, rfl, b0, m0, R0, g0⟩ := Open.open_rows (k := 1) (Ints.encZ .u64) (fun x => (Lit.int .u64 x).wf = true) Try.underlying22 (by kernel_rfl) (by decide) (Ints.encZ_length _) (fun n cs y h hl => Ints.one_int Try.underlying23 n cs y h hl) (hval 0 22 v0 rfl rfl) h0
  obtain ⟨a1, rfl, _, _, w1⟩ := open_int Try.underlying23 (hval 1 23 v1 rfl rfl) h1
  obtain ⟨a2, rfl, _, _, w2⟩ := open_int Try.underlying3 (hval 2 3 v2 rfl rfl) h2
  refine (walk A0 x0 c0 a1 a2 w1 w2 W R0 (Nat.le_trans b0 m0) g0).mono fun e W' h => ?_
  exact h

theorem over : Rows.drawTellsRow.holds Try.pinned (OpenSpec.ofChange Rows.drawTellsSpec) :=
  OpenClaim.holds_of_wide 3 Try.f3 rfl rfl rfl rfl rfl rfl rfl ⟨rfl, rfl, rfl, rfl, rfl⟩ rfl rfl rfl rfl rfl (by kernel_rfl) Try.func3 (by kernel_rfl)
    (of_decide_eq_true (by kernel_rfl)) (by unfold Func.isWrapper; first | (rw [if_pos (by decide +kernel)]; kernel_rfl) | (rw [if_neg (by decide +kernel)]; exact ⟨rfl, rfl⟩))
    (fun os started H enc _ => lifted os started H enc)

theorem proved : Rows.DrawTellsSaid := over
#print axioms proved
end Go.Proofs.Ytglidneeccaikaa.DrawTells
