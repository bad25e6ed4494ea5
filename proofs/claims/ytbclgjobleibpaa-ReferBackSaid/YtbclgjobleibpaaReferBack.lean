/-
  ReferBack: for every generation and index, the reference that package refer makes has just these parts and no mark, marking it sets the mark alone, and unmarking takes it back; of a generation or an index that there is not it makes 0; and the chapter's examples come out. No condition.
-/
import Derived.Test.YtbclgjobleibpaaReferAwake
import Derived.Test.YtbclgjobleibpaaFrame
namespace Go.Proofs.Ytbclgjobleibpaa.ReferBack
open Go.ChangeShapes Go.WideShapes Go.ChangeAt Go.RowKit FM RM
open Go.Proofs.Ytbclgjobleibpaa.Law02 (wf_u64 wf_i64)
set_option linter.unusedVariables false

/-- All that is to be known of the reference r of g and i, and of r with its mark. -/
theorem parts (g i : Int) (g0 : 0 ≤ g) (g1 : g ≤ 4294967295) (i1 : 1 ≤ i) (i2 : i ≤ 2147483647) : ∃ r m : Int, r = g * 4294967296 + i * 2 ∧ m = r - r % 2 + 1 ∧
    (0 ≤ r ∧ r < 18446744073709551616) ∧ (0 ≤ m ∧ m < 18446744073709551616) ∧ r / 4294967296 = g ∧ r % 4294967296 / 2 = i ∧ r % 2 = 0 ∧ m / 4294967296 = g ∧ m % 4294967296 / 2 = i ∧ m % 2 = 1 ∧ m - m % 2 = r ∧ m - m % 2 + 1 = m ∧ ¬ i = 0 :=
  ⟨_, _, rfl, rfl, by omega, by omega, by omega, by omega, by omega, by omega, by omega, by omega, by omega, by omega, by omega⟩

theorem walk (g i : Int) (wg : (Lit.int .u64 g).wf = true) (wi : (Lit.int .i64 i).wf = true) (w : World) :
    Calls Try.prog 4 #[.int .u64 g, .int .i64 i] w fun e w' => e = .returned (.bool true) ∧ w = w' := by
  obtain ⟨g0, g1⟩ := wf_u64 wg
  clear wg wi
  by_cases h1 : 4294967295 < g
  · have HO := Lib.hid (ofI_no (g := g) (i := i) (by omega))
    go_enter Try.func4, Try.ntmps4
    go_wp2_with fail
    refine (Refer.Of_any _ _ g0 _).mono ?_
    rintro e w' ⟨rfl, rfl⟩
    rw [HO.out]
    go_wp2_with fail
    refine (Law02.awake_any _).mono ?_
    rintro e w' ⟨rfl, rfl⟩
    go_wp2
    go_ret
    exact ⟨rfl, rfl⟩
  · by_cases h2 : i < 1
    · have HO := Lib.hid (ofI_no (g := g) (i := i) (by omega))
      go_enter Try.func4, Try.ntmps4
      go_wp2_with fail
      refine (Refer.Of_any _ _ g0 _).mono ?_
      rintro e w' ⟨rfl, rfl⟩
      rw [HO.out]
      go_wp2_with fail
      refine (Law02.awake_any _).mono ?_
      rintro e w' ⟨rfl, rfl⟩
      go_wp2
      go_ret
      exact ⟨rfl, rfl⟩
    · by_cases h3 : 2147483647 < i
      · have HO := Lib.hid (ofI_no (g := g) (i := i) (by omega))
        go_enter Try.func4, Try.ntmps4
        go_wp2_with fail
        refine (Refer.Of_any _ _ g0 _).mono ?_
        rintro e w' ⟨rfl, rfl⟩
        rw [HO.out]
        go_wp2_with fail
        refine (Law02.awake_any _).mono ?_
        rintro e w' ⟨rfl, rfl⟩
        go_wp2
        go_ret
        exact ⟨rfl, rfl⟩
      · have HO := Lib.hid (ofI_yes (g := g) (i := i) (by omega))
        obtain ⟨r, m, hr, hm, ⟨r0, r1⟩, ⟨m0, m1⟩, f1, f2, f3, f4, f5, f6, f7, f8, hi0⟩ := parts g i g0 (by omega) (by omega) (by omega)
        have HR := Lib.hid hr
        have HM := Lib.hid hm
        have F1 := Lib.hid f1
        have F2 := Lib.hid f2
        have F3 := Lib.hid f3
        have F4 := Lib.hid f4
        have F5 := Lib.hid f5
        have F6 := Lib.hid f6
        have F7 := Lib.hid f7
        have F8 := Lib.hid f8
        clear hr hm f1 f2 f3 f4 f5 f6 f7 f8
        go_enter Try.func4, Try.ntmps4
        go_wp2_with fail
        refine (Refer.Of_any _ _ g0 _).mono ?_
        rintro e w' ⟨rfl, rfl⟩
        rw [HO.out, ← HR.out]
        go_wp2_with fail
        refine (Refer.Mark_any r r0 r1 _).mono ?_
        rintro e w' ⟨rfl, rfl⟩
        rw [← HM.out]
        go_wp2_with fail
        refine (Refer.Gen_any r r0 r1 _).mono ?_
        rintro e w' ⟨rfl, rfl⟩
        rw [F1.out]
        go_wp2_with fail
        refine (Refer.Index_any r r0 r1 _).mono ?_
        rintro e w' ⟨rfl, rfl⟩
        rw [F2.out]
        go_wp2_with fail
        refine (Refer.Marked_any r r0 r1 _).mono ?_
        rintro e w' ⟨rfl, rfl⟩
        rw [F3.out]
        go_wp2_with fail
        refine (Refer.Marked_any m m0 m1 _).mono ?_
        rintro e w' ⟨rfl, rfl⟩
        rw [F6.out]
        go_wp2_with fail
        refine (Refer.Gen_any m m0 m1 _).mono ?_
        rintro e w' ⟨rfl, rfl⟩
        rw [F4.out]
        go_wp2_with fail
        refine (Refer.Index_any m m0 m1 _).mono ?_
        rintro e w' ⟨rfl, rfl⟩
        rw [F5.out]
        go_wp2_with fail
        refine (Refer.Plain_any m m0 m1 _).mono ?_
        rintro e w' ⟨rfl, rfl⟩
        rw [F7.out]
        go_wp2_with fail
        refine (Refer.Mark_any m m0 m1 _).mono ?_
        rintro e w' ⟨rfl, rfl⟩
        rw [F8.out]
        go_wp2_with fail
        refine (Refer.None_any m m0 m1 _).mono ?_
        rintro e w' ⟨rfl, rfl⟩
        rw [F5.out]
        go_wp2_with fail
        refine (Law02.awake_any _).mono ?_
        rintro e w' ⟨rfl, rfl⟩
        go_wp2
        go_ret
        exact ⟨rfl, rfl⟩

theorem laidOut : laidOutB Try.prog = true := by kernel_rfl
theorem own : ownKnob Try.prog.godebug = none := by kernel_rfl
theorem lifted (os : Os) (started : os.Started) (H : Type) (enc : TypeId × Value → H) :
    ReturnsInHanded {} Try.checked os 4 .any (Rows.referBackSpec.pre6 enc Try.prog Try.f4 Rows.referBackRow.domain false) (Rows.referBackSpec.post enc Try.prog Try.f4 false true false false) := by
  refine Frame.lifted (C := Try.checked) (fn := Try.f4) (tb := 4) own started (by kernel_rfl) Try.func4
    (ChangeSpec.witness6 (enc := enc) (C := Try.checked) false ⟨#[], #[.int .u64 0, .int .i64 0], []⟩ 8 (by kernel_rfl) (by kernel_rfl) (by kernel_rfl) (by kernel_rfl))
    rfl rfl Try.underlying4 laidOut (by kernel_rfl) (fun ds h => by match ds, h with | [_, _], _ => rfl) ?_
  intro W base args ds ps hval0 hA0 hlt
  have hval : ∀ (j : Nat) t v, Try.f4.params[j]? = some t → args[j]? = some v → Value.okWide Try.prog W .any base t v := hval0
  have hA : DataW.TrodAll enc Try.prog W 0 (fun _ => true) true Try.f4.params.toList args.toList ds ps := hA0
  rw [Try.params4] at hA hval
  obtain ⟨v0, vs0, d0, ds0, p0, q0, hargs, rfl, rfl, h0, r0⟩ := trodAll_cons hA
  obtain ⟨v1, vs1, d1, ds1, p1, q1, rfl, rfl, rfl, h1, r1⟩ := trodAll_cons r0
  obtain ⟨rfl, rfl, rfl⟩ := trodAll_nil r1
  obtain rfl : args = #[v0, v1] := by cases args; simp_all
  obtain ⟨a0, rfl, _, _, w0⟩ := open_int Try.underlying22 (hval 0 22 v0 rfl rfl) h0
  obtain ⟨a1, rfl, _, _, w1⟩ := open_int Try.underlying3 (hval 1 3 v1 rfl rfl) h1
  refine (walk a0 a1 w0 w1 W).mono fun e W' h => ?_
  obtain ⟨he, rfl⟩ := h
  exact ⟨he, Below.refl _ _⟩

theorem over : Rows.referBackRow.holds Try.pinned (OpenSpec.ofChange Rows.referBackSpec) :=
  OpenClaim.holds_of_wide 4 Try.f4 rfl rfl rfl rfl rfl rfl rfl ⟨rfl, rfl, rfl, rfl, rfl⟩ rfl rfl rfl rfl rfl (by kernel_rfl) Try.func4 (by kernel_rfl)
    (of_decide_eq_true (by kernel_rfl)) (by unfold Func.isWrapper; first | (rw [if_pos (by decide +kernel)]; kernel_rfl) | (rw [if_neg (by decide +kernel)]; exact ⟨rfl, rfl⟩))
    (fun os started H enc _ => lifted os started H enc)

theorem proved : Rows.ReferBackSaid := over
#print axioms proved
end Go.Proofs.Ytbclgjobleibpaa.ReferBack
