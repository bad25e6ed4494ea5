/- DrawMore: for every number and every two counts of levels, the second no less, the height of more levels is no less, each is from 1 to how many levels there are, of an even number it is 1, and of an odd one more than 1 where there is more than one level; and the chapter's examples come out. No condition. -/
import Derived.Test.YtglidneeccaikaaFrame
import Derived.Test.YtglidneeccaikaaDrawAwake
namespace Go.Proofs.Ytglidneeccaikaa.DrawMore
open Go.ChangeShapes Go.WideShapes Go.ChangeAt Go.RowKit DM Lay Ints Draw
open Go.Proofs.Ytglidneeccaikaa.Law05 (wf_u64 wf_i64)

theorem walk (v lv mo : Int) (wv : (Lit.int .u64 v).wf = true) (_ : (Lit.int .i64 lv).wf = true) (_ : (Lit.int .i64 mo).wf = true) (w : World) :
    Calls Try.prog 4 #[.int .u64 v, .int .i64 lv, .int .i64 mo] w fun e w' => e = .returned (.bool true) ∧ w = w' := by
  obtain ⟨v0, v1⟩ := wf_u64 wv
  clear wv
  have h1 : heightI v 1 = 1 := height_all (by decide) (by omega)
  have H1 := Lib.hid h1
  clear h1
  by_cases c1 : lv < 1
  · go_enter Try.func4, Try.ntmps4
    go_wp2_with fail
    refine (Height_is H1.out v0 v1 _).mono ?_
    rintro e w' ⟨rfl, rfl⟩
    go_wp2_with fail
    refine (Law05.awake_any _).mono ?_
    rintro e w' ⟨rfl, rfl⟩
    go_wp2
    go_ret
    exact ⟨rfl, rfl⟩
  · have c1' : 1 ≤ lv := by omega
    by_cases c2 : mo < lv
    · clear c1
      go_enter Try.func4, Try.ntmps4
      go_wp2_with fail
      refine (Height_is H1.out v0 v1 _).mono ?_
      rintro e w' ⟨rfl, rfl⟩
      go_wp2_with fail
      refine (Law05.awake_any _).mono ?_
      rintro e w' ⟨rfl, rfl⟩
      go_wp2
      go_ret
      exact ⟨rfl, rfl⟩
    · have c2' : lv ≤ mo := by omega
      obtain ⟨h, hh⟩ : ∃ h, heightI v lv = h := ⟨_, rfl⟩
      obtain ⟨k, hk⟩ : ∃ k, heightI v mo = k := ⟨_, rfl⟩
      have f1 : 1 ≤ h := by rw [← hh]; exact height_pos (by omega)
      have f2 : h ≤ lv := by rw [← hh]; exact height_hi (by omega)
      have f3 : h ≤ k := by rw [← hh, ← hk]; exact height_mono c1 c2'
      have f4 : ¬ h = lv → h = k := by rw [← hh, ← hk]; exact height_stays c1 c2'
      have f5 : v % 2 = 0 → h = 1 := fun e => by rw [← hh]; exact height_even c1 e
      have f6 : v % 2 = 1 → ¬ lv = 1 → 1 < h := fun e e1 => by rw [← hh]; exact height_odd v0 c1 e e1
      have HH := Lib.hid hh
      have HK := Lib.hid hk
      clear hh hk c1 c2
      by_cases e : v % 2 = 1
      · have g1 : (v % 2 == 1) = true := by simpa using e
        have g0 : (v % 2 == 0) = false := by rw [e]; rfl
        have f6 := f6 e
        by_cases el : lv = 1
        · subst el
          obtain rfl : h = 1 := by omega
          clear f4 f5 f6
          go_enter Try.func4, Try.ntmps4
          go_wp2_with fail
          refine (Height_is HH.out v0 v1 _).mono ?_
          rintro e w' ⟨rfl, rfl⟩
          go_wp2_with fail
          refine (Height_is HK.out v0 v1 _).mono ?_
          rintro e w' ⟨rfl, rfl⟩
          go_wp2_with fail
          refine (Law05.awake_any _).mono ?_
          rintro e w' ⟨rfl, rfl⟩
          go_wp2
          go_ret
          exact ⟨rfl, rfl⟩
        · have f6 := f6 el
          have el2 : (lv == 1) = false := by simpa using el
          by_cases eh : h = lv
          · subst eh
            clear f4 f5
            go_enter Try.func4, Try.ntmps4
            go_wp2_with fail
            refine (Height_is HH.out v0 v1 _).mono ?_
            rintro e w' ⟨rfl, rfl⟩
            go_wp2_with fail
            refine (Height_is HK.out v0 v1 _).mono ?_
            rintro e w' ⟨rfl, rfl⟩
            go_wp2_with fail
            refine (Law05.awake_any _).mono ?_
            rintro e w' ⟨rfl, rfl⟩
            go_wp2
            go_ret
            exact ⟨rfl, rfl⟩
          · have f4 := f4 eh
            subst f4
            have eh2 : (h == lv) = false := by simpa using eh
            clear f5
            go_enter Try.func4, Try.ntmps4
            go_wp2_with fail
            refine (Height_is HH.out v0 v1 _).mono ?_
            rintro e w' ⟨rfl, rfl⟩
            go_wp2_with fail
            refine (Height_is HK.out v0 v1 _).mono ?_
            rintro e w' ⟨rfl, rfl⟩
            go_wp2_with fail
            refine (Law05.awake_any _).mono ?_
            rintro e w' ⟨rfl, rfl⟩
            go_wp2
            go_ret
            exact ⟨rfl, rfl⟩
      · have e0 : v % 2 = 0 := by omega
        have g1 : (v % 2 == 1) = false := by rw [e0]; rfl
        have g0 : (v % 2 == 0) = true := by simpa using e0
        obtain rfl : h = 1 := f5 e0
        by_cases el : lv = 1
        · subst el
          clear f4 f5 f6
          go_enter Try.func4, Try.ntmps4
          go_wp2_with fail
          refine (Height_is HH.out v0 v1 _).mono ?_
          rintro e w' ⟨rfl, rfl⟩
          go_wp2_with fail
          refine (Height_is HK.out v0 v1 _).mono ?_
          rintro e w' ⟨rfl, rfl⟩
          go_wp2_with fail
          refine (Law05.awake_any _).mono ?_
          rintro e w' ⟨rfl, rfl⟩
          go_wp2
          go_ret
          exact ⟨rfl, rfl⟩
        · have f4 := f4 (fun h => el h.symm)
          subst f4
          have el2 : (1 == lv) = false := by simpa using fun h : 1 = lv => el h.symm
          have el3 : (lv == 1) = false := by simpa using el
          clear f5 f6
          go_enter Try.func4, Try.ntmps4
          go_wp2_with fail
          refine (Height_is HH.out v0 v1 _).mono ?_
          rintro e w' ⟨rfl, rfl⟩
          go_wp2_with fail
          refine (Height_is HK.out v0 v1 _).mono ?_
          rintro e w' ⟨rfl, rfl⟩
          go_wp2_with fail
          refine (Law05.awake_any _).mono ?_
          rintro e w' ⟨rfl, rfl⟩
          go_wp2
          go_ret
          exact ⟨rfl, rfl⟩
theorem laidOut : laidOutB Try.prog = true := by kernel_rfl
theorem own : ownKnob Try.prog.godebug = none := by kernel_rfl
theorem lifted (os : Os) (started : os.Started) (H : Type) (enc : TypeId × Value → H) :
    ReturnsInHanded {} Try.checked os 4 .any (Rows.drawMoreSpec.pre6 enc Try.prog Try.f4 Rows.drawMoreRow.domain false) (Rows.drawMoreSpec.post enc Try.prog Try.f4 false true false false) := by
  refine Frame.lifted (C := Try.checked) (fn := Try.f4) (tb := 4) own started (by kernel_rfl) Try.func4
    (ChangeSpec.witness6 (enc := enc) (C := Try.checked) false ⟨#[], #[.int .u64 0, .int .i64 0, .int .i64 0], []⟩ 8 (by kernel_rfl) (by kernel_rfl) (by kernel_rfl) (by kernel_rfl))
    rfl rfl Try.underlying4 laidOut (by kernel_rfl) (fun ds h => by match ds, h with | [_, _, _], _ => rfl) ?_
  intro W base args ds ps hval0 hA0 hlt
  have hval : ∀ (j : Nat) t v, Try.f4.params[j]? = some t → args[j]? = some v → Value.okWide Try.prog W .any base t v := hval0
  have hA : DataW.TrodAll enc Try.prog W 0 (fun _ => true) true Try.f4.params.toList args.toList ds ps := hA0
  rw [Try.params4] at hA hval
  obtain ⟨v0, vs0, d0, ds0, p0, q0, hargs, rfl, rfl, h0, r0⟩ := trodAll_cons hA
  obtain ⟨v1, vs1, d1, ds1, p1, q1, rfl, rfl, rfl, h1, r1⟩ := trodAll_cons r0
  obtain ⟨v2, vs2, d2, ds2, p2, q2, rfl, rfl, rfl, h2, r2⟩ := trodAll_cons r1
  obtain ⟨rfl, rfl, rfl⟩ := trodAll_nil r2
  obtain rfl : args = #[v0, v1, v2] := by cases args; simp_all
  obtain ⟨a0, rfl, _, _, w0⟩ := open_int Try.underlying23 (hval 0 23 v0 rfl rfl) h0
  obtain ⟨a1, rfl, _, _, w1⟩ := open_int Try.underlying3 (hval 1 3 v1 rfl rfl) h1
  obtain ⟨a2, rfl, _, _, w2⟩ := open_int Try.underlying3 (hval 2 3 v2 rfl rfl) h2
  refine (walk a0 a1 a2 w0 w1 w2 W).mono fun e W' h => ?_
  obtain ⟨he, rfl⟩ := h
  exact ⟨he, Below.refl _ _⟩

theorem over : Rows.drawMoreRow.holds Try.pinned (OpenSpec.ofChange Rows.drawMoreSpec) :=
  OpenClaim.holds_of_wide 4 Try.f4 rfl rfl rfl rfl rfl rfl rfl ⟨rfl, rfl, rfl, rfl, rfl⟩ rfl rfl rfl rfl rfl (by kernel_rfl) Try.func4 (by kernel_rfl)
    (of_decide_eq_true (by kernel_rfl)) (by unfold Func.isWrapper; first | (rw [if_pos (by decide +kernel)]; kernel_rfl) | (rw [if_neg (by decide +kernel)]; exact ⟨rfl, rfl⟩))
    (fun os started H enc _ => lifted os started H enc)

theorem proved : Rows.DrawMoreSaid := over
#print axioms proved
end Go.Proofs.Ytglidneeccaikaa.DrawMore
