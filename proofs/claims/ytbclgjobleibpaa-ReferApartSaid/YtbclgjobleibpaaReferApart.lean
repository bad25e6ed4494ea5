/-
  ReferApart: every two words are the same just if package refer tells the same generation, index and mark of both, and without their marks they are the same just if generation and index are; and the chapter's examples come out. No condition.
-/
import Derived.Test.YtbclgjobleibpaaReferAwake
import Derived.Test.YtbclgjobleibpaaFrame
namespace Go.Proofs.Ytbclgjobleibpaa.ReferApart
open Go.ChangeShapes Go.WideShapes Go.ChangeAt Go.RowKit FM RM
open Go.Proofs.Ytbclgjobleibpaa.Law02 (wf_u64 wf_i64)
set_option linter.unusedVariables false

/-- The parts of a word, told apart. -/
theorem parts (a : Int) (a0 : 0 ≤ a) (a1 : a < 18446744073709551616) : ∃ g i m : Int, a / 4294967296 = g ∧ a % 4294967296 / 2 = i ∧ a % 2 = m ∧ a - a % 2 = g * 4294967296 + i * 2 ∧ a = g * 4294967296 + i * 2 + m ∧ 0 ≤ i ∧ i < 2147483648 ∧ 0 ≤ m ∧ m < 2 :=
  ⟨_, _, _, rfl, rfl, rfl, by omega, by omega, by omega, by omega, by omega, by omega⟩

theorem walk (a b : Int) (wa : (Lit.int .u64 a).wf = true) (wb : (Lit.int .u64 b).wf = true) (w : World) :
    Calls Try.prog 5 #[.int .u64 a, .int .u64 b] w fun e w' => e = .returned (.bool true) ∧ w = w' := by
  obtain ⟨a0, a1⟩ := wf_u64 wa
  obtain ⟨b0, b1⟩ := wf_u64 wb
  clear wa wb
  obtain ⟨g, i, m, ag, ai, am, ap, ae, i0, i1, m0, m1⟩ := parts a a0 a1
  obtain ⟨h, j, n, bg, bi, bm, bp, be, j0, j1, n0, n1⟩ := parts b b0 b1
  have AG := Lib.hid ag
  have AI := Lib.hid ai
  have AM := Lib.hid am
  have AP := Lib.hid ap
  have BG := Lib.hid bg
  have BI := Lib.hid bi
  have BM := Lib.hid bm
  have BP := Lib.hid bp
  have AE := Lib.hid ae
  have BE := Lib.hid be
  clear ag ai am ap bg bi bm bp
  by_cases hg : g = h
  · subst hg
    by_cases hi : i = j
    · subst hi
      by_cases hm : m = n
      · subst hm
        obtain rfl : a = b := by omega
        clear ae be
        go_enter Try.func5, Try.ntmps5
        go_wp2_with fail
        refine (Refer.Gen_any a a0 a1 _).mono ?_
        rintro e w' ⟨rfl, rfl⟩
        go_wp2_with fail
        refine (Refer.Gen_any a b0 b1 _).mono ?_
        rintro e w' ⟨rfl, rfl⟩
        go_wp2_with fail
        refine (Refer.Index_any a a0 a1 _).mono ?_
        rintro e w' ⟨rfl, rfl⟩
        go_wp2_with fail
        refine (Refer.Index_any a b0 b1 _).mono ?_
        rintro e w' ⟨rfl, rfl⟩
        go_wp2_with fail
        refine (Refer.Marked_any a a0 a1 _).mono ?_
        rintro e w' ⟨rfl, rfl⟩
        go_wp2_with fail
        refine (Refer.Marked_any a b0 b1 _).mono ?_
        rintro e w' ⟨rfl, rfl⟩
        go_wp2_with fail
        refine (Refer.Plain_any a a0 a1 _).mono ?_
        rintro e w' ⟨rfl, rfl⟩
        go_wp2_with fail
        refine (Refer.Plain_any a b0 b1 _).mono ?_
        rintro e w' ⟨rfl, rfl⟩
        go_wp2_with fail
        refine (Refer.Gen_any a a0 a1 _).mono ?_
        rintro e w' ⟨rfl, rfl⟩
        go_wp2_with fail
        refine (Refer.Gen_any a b0 b1 _).mono ?_
        rintro e w' ⟨rfl, rfl⟩
        go_wp2_with fail
        refine (Refer.Index_any a a0 a1 _).mono ?_
        rintro e w' ⟨rfl, rfl⟩
        go_wp2_with fail
        refine (Refer.Index_any a b0 b1 _).mono ?_
        rintro e w' ⟨rfl, rfl⟩
        go_wp2_with fail
        refine (Law02.awake_any _).mono ?_
        rintro e w' ⟨rfl, rfl⟩
        go_wp2
        go_ret
        exact ⟨rfl, rfl⟩
      · have hne : ¬ a = b := by omega
        have hq : (a == b) = false := by simp [hne]
        have hmm : (decide (m = 1) == decide (n = 1)) = false := by
          by_cases h1 : m = 1
          · have h2 : ¬ n = 1 := by omega
            simp [h1, h2]
          · have h2 : n = 1 := by omega
            simp [h1, h2]
        clear ae be
        go_enter Try.func5, Try.ntmps5
        go_wp2_with fail
        refine (Refer.Gen_any a a0 a1 _).mono ?_
        rintro e w' ⟨rfl, rfl⟩
        rw [AG.out]
        go_wp2_with fail
        refine (Refer.Gen_any b b0 b1 _).mono ?_
        rintro e w' ⟨rfl, rfl⟩
        rw [BG.out]
        go_wp2_with fail
        refine (Refer.Index_any a a0 a1 _).mono ?_
        rintro e w' ⟨rfl, rfl⟩
        rw [AI.out]
        go_wp2_with fail
        refine (Refer.Index_any b b0 b1 _).mono ?_
        rintro e w' ⟨rfl, rfl⟩
        rw [BI.out]
        go_wp2_with fail
        refine (Refer.Marked_any a a0 a1 _).mono ?_
        rintro e w' ⟨rfl, rfl⟩
        rw [AM.out]
        go_wp2_with fail
        refine (Refer.Marked_any b b0 b1 _).mono ?_
        rintro e w' ⟨rfl, rfl⟩
        rw [BM.out]
        go_wp2_with fail
        refine (Refer.Plain_any a a0 a1 _).mono ?_
        rintro e w' ⟨rfl, rfl⟩
        rw [AP.out]
        go_wp2_with fail
        refine (Refer.Plain_any b b0 b1 _).mono ?_
        rintro e w' ⟨rfl, rfl⟩
        rw [BP.out]
        go_wp2_with fail
        refine (Refer.Gen_any a a0 a1 _).mono ?_
        rintro e w' ⟨rfl, rfl⟩
        rw [AG.out]
        go_wp2_with fail
        refine (Refer.Gen_any b b0 b1 _).mono ?_
        rintro e w' ⟨rfl, rfl⟩
        rw [BG.out]
        go_wp2_with fail
        refine (Refer.Index_any a a0 a1 _).mono ?_
        rintro e w' ⟨rfl, rfl⟩
        rw [AI.out]
        go_wp2_with fail
        refine (Refer.Index_any b b0 b1 _).mono ?_
        rintro e w' ⟨rfl, rfl⟩
        rw [BI.out]
        go_wp2_with fail
        refine (Law02.awake_any _).mono ?_
        rintro e w' ⟨rfl, rfl⟩
        go_wp2
        go_ret
        exact ⟨rfl, rfl⟩
    · have hne : ¬ a = b := by omega
      have hq : (a == b) = false := by simp [hne]
      have hp : ¬ g * 4294967296 + i * 2 = g * 4294967296 + j * 2 := by omega
      have hqi : (i == j) = false := by simp [hi]
      have hqp : (g * 4294967296 + i * 2 == g * 4294967296 + j * 2) = false := by simp [hp]
      clear ae be
      go_enter Try.func5, Try.ntmps5
      go_wp2_with fail
      refine (Refer.Gen_any a a0 a1 _).mono ?_
      rintro e w' ⟨rfl, rfl⟩
      rw [AG.out]
      go_wp2_with fail
      refine (Refer.Gen_any b b0 b1 _).mono ?_
      rintro e w' ⟨rfl, rfl⟩
      rw [BG.out]
      go_wp2_with fail
      refine (Refer.Index_any a a0 a1 _).mono ?_
      rintro e w' ⟨rfl, rfl⟩
      rw [AI.out]
      go_wp2_with fail
      refine (Refer.Index_any b b0 b1 _).mono ?_
      rintro e w' ⟨rfl, rfl⟩
      rw [BI.out]
      go_wp2_with fail
      refine (Refer.Plain_any a a0 a1 _).mono ?_
      rintro e w' ⟨rfl, rfl⟩
      rw [AP.out]
      go_wp2_with fail
      refine (Refer.Plain_any b b0 b1 _).mono ?_
      rintro e w' ⟨rfl, rfl⟩
      rw [BP.out]
      go_wp2_with fail
      refine (Refer.Gen_any a a0 a1 _).mono ?_
      rintro e w' ⟨rfl, rfl⟩
      rw [AG.out]
      go_wp2_with fail
      refine (Refer.Gen_any b b0 b1 _).mono ?_
      rintro e w' ⟨rfl, rfl⟩
      rw [BG.out]
      go_wp2_with fail
      refine (Refer.Index_any a a0 a1 _).mono ?_
      rintro e w' ⟨rfl, rfl⟩
      rw [AI.out]
      go_wp2_with fail
      refine (Refer.Index_any b b0 b1 _).mono ?_
      rintro e w' ⟨rfl, rfl⟩
      rw [BI.out]
      go_wp2_with fail
      refine (Law02.awake_any _).mono ?_
      rintro e w' ⟨rfl, rfl⟩
      go_wp2
      go_ret
      exact ⟨rfl, rfl⟩
  · have hne : ¬ a = b := by omega
    have hq : (a == b) = false := by simp [hne]
    have hp : ¬ g * 4294967296 + i * 2 = h * 4294967296 + j * 2 := by omega
    have hqg : (g == h) = false := by simp [hg]
    have hqp : (g * 4294967296 + i * 2 == h * 4294967296 + j * 2) = false := by simp [hp]
    clear ae be
    go_enter Try.func5, Try.ntmps5
    go_wp2_with fail
    refine (Refer.Gen_any a a0 a1 _).mono ?_
    rintro e w' ⟨rfl, rfl⟩
    rw [AG.out]
    go_wp2_with fail
    refine (Refer.Gen_any b b0 b1 _).mono ?_
    rintro e w' ⟨rfl, rfl⟩
    rw [BG.out]
    go_wp2_with fail
    refine (Refer.Plain_any a a0 a1 _).mono ?_
    rintro e w' ⟨rfl, rfl⟩
    rw [AP.out]
    go_wp2_with fail
    refine (Refer.Plain_any b b0 b1 _).mono ?_
    rintro e w' ⟨rfl, rfl⟩
    rw [BP.out]
    go_wp2_with fail
    refine (Refer.Gen_any a a0 a1 _).mono ?_
    rintro e w' ⟨rfl, rfl⟩
    rw [AG.out]
    go_wp2_with fail
    refine (Refer.Gen_any b b0 b1 _).mono ?_
    rintro e w' ⟨rfl, rfl⟩
    rw [BG.out]
    go_wp2_with fail
    refine (Law02.awake_any _).mono ?_
    rintro e w' ⟨rfl, rfl⟩
    go_wp2
    go_ret
    exact ⟨rfl, rfl⟩

theorem laidOut : laidOutB Try.prog = true := by kernel_rfl
theorem own : ownKnob Try.prog.godebug = none := by kernel_rfl
theorem lifted (os : Os) (started : os.Started) (H : Type) (enc : TypeId × Value → H) :
    ReturnsInHanded {} Try.checked os 5 .any (Rows.referApartSpec.pre6 enc Try.prog Try.f5 Rows.referApartRow.domain false) (Rows.referApartSpec.post enc Try.prog Try.f5 false true false false) := by
  refine Frame.lifted (C := Try.checked) (fn := Try.f5) (tb := 4) own started (by kernel_rfl) Try.func5
    (ChangeSpec.witness6 (enc := enc) (C := Try.checked) false ⟨#[], #[.int .u64 0, .int .u64 0], []⟩ 8 (by kernel_rfl) (by kernel_rfl) (by kernel_rfl) (by kernel_rfl))
    rfl rfl Try.underlying4 laidOut (by kernel_rfl) (fun ds h => by match ds, h with | [_, _], _ => rfl) ?_
  intro W base args ds ps hval0 hA0 hlt
  have hval : ∀ (j : Nat) t v, Try.f5.params[j]? = some t → args[j]? = some v → Value.okWide Try.prog W .any base t v := hval0
  have hA : DataW.TrodAll enc Try.prog W 0 (fun _ => true) true Try.f5.params.toList args.toList ds ps := hA0
  rw [Try.params5] at hA hval
  obtain ⟨v0, vs0, d0, ds0, p0, q0, hargs, rfl, rfl, h0, r0⟩ := trodAll_cons hA
  obtain ⟨v1, vs1, d1, ds1, p1, q1, rfl, rfl, rfl, h1, r1⟩ := trodAll_cons r0
  obtain ⟨rfl, rfl, rfl⟩ := trodAll_nil r1
  obtain rfl : args = #[v0, v1] := by cases args; simp_all
  obtain ⟨a0, rfl, _, _, w0⟩ := open_int Try.underlying22 (hval 0 22 v0 rfl rfl) h0
  obtain ⟨a1, rfl, _, _, w1⟩ := open_int Try.underlying22 (hval 1 22 v1 rfl rfl) h1
  refine (walk a0 a1 w0 w1 W).mono fun e W' h => ?_
  obtain ⟨he, rfl⟩ := h
  exact ⟨he, Below.refl _ _⟩

theorem over : Rows.referApartRow.holds Try.pinned (OpenSpec.ofChange Rows.referApartSpec) :=
  OpenClaim.holds_of_wide 5 Try.f5 rfl rfl rfl rfl rfl rfl rfl ⟨rfl, rfl, rfl, rfl, rfl⟩ rfl rfl rfl rfl rfl (by kernel_rfl) Try.func5 (by kernel_rfl)
    (of_decide_eq_true (by kernel_rfl)) (by unfold Func.isWrapper; first | (rw [if_pos (by decide +kernel)]; kernel_rfl) | (rw [if_neg (by decide +kernel)]; exact ⟨rfl, rfl⟩))
    (fun os started H enc _ => lifted os started H enc)

theorem proved : Rows.ReferApartSaid := over
#print axioms proved
end Go.Proofs.Ytbclgjobleibpaa.ReferApart
