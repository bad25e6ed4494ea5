/-
  FieldBack: for every word w, every number n, and every two places and widths, what is put into a field is got from it as far as it has bits, a field that shares no bit with it stays, the word with its own field put is itself, and where one of the two is no field Put changes nothing and Get tells 0; and the chapter's examples come out. No condition.
-/
import Derived.Test.YtlahojinplmojaaFieldRef
import Derived.Test.YtlahojinplmojaaFieldAwake
import Derived.Test.YtlahojinplmojaaFrame
import Derived.Deep.QuietTactic
import Derived.BigQuiet
namespace Go.Proofs.Ytlahojinplmojaa.FieldBack
open Go.ChangeShapes Go.WideShapes Go.ChangeAt Go.RowKit FM
open Go.Proofs.Ytlahojinplmojaa.Law01 (wf_u64 wf_i64)
set_option linter.unusedVariables false

theorem none_put (v n : Int) : putI v 64 1 n = v := by unfold putI; rw [if_neg (by decide)]
theorem none_get (v : Int) : getI v (-1) 1 = 0 := by unfold getI; rw [if_neg (by decide)]

/-- Where one of the two is no field. -/
theorem walk_no (v n a b c d : Int) (v0 : 0 ≤ v) (v1 : v < 18446744073709551616) (n0 : 0 ≤ n) (a1 : a ≤ 9223372036854775807) (c1 : c ≤ 9223372036854775807) (h : (isB a b && isB c d) = false) (w : World) :
    Calls Try.prog 5 #[.int .u64 v, .int .u64 n, .agg #[.int .i64 a, .int .i64 b, .int .i64 c, .int .i64 d]] w fun e w' => e = .returned (.bool true) ∧ Below w.heap.size w w' := by
  have HP := Lib.hid (none_put v n)
  have HG := Lib.hid (none_get v)
  cases h1 : isB a b
  · have H1 := Lib.hid h1
    clear h h1
    go_enter Try.func5, Try.ntmps5
    go_wp2
    go_quiet (fail)
    go_wp2_with fail
    refine (Field.Is_no _ _ H1.out a1 _).mono ?_
    rintro e w' ⟨rfl, rfl⟩
    go_wp2_with fail
    refine (Field.Put_any _ _ _ _ v0 v1 n0 (by decide) _).mono ?_
    rintro e w' ⟨rfl, rfl⟩
    rw [HP.out]
    go_wp2_with fail
    refine (Field.Get_any _ _ _ v0 v1 (by decide) _).mono ?_
    rintro e w' ⟨rfl, rfl⟩
    rw [HG.out]
    go_wp2_with fail
    refine (Law01.awake_any _).mono ?_
    rintro e w' ⟨rfl, rfl⟩
    go_wp2
    go_ret
    exact ⟨rfl, Frame.below_drewN ((Below.refl _ _).alloc (Nat.le_refl _) _) _⟩
  · have h2 : isB c d = false := by rw [h1] at h; simpa using h
    have H1 := Lib.hid h1
    have H2 := Lib.hid h2
    clear h h1 h2
    go_enter Try.func5, Try.ntmps5
    go_wp2
    go_quiet (fail)
    go_wp2_with fail
    refine (Field.Is_yes _ _ H1.out _).mono ?_
    rintro e w' ⟨rfl, rfl⟩
    go_wp2_with fail
    refine (Field.Is_no _ _ H2.out c1 _).mono ?_
    rintro e w' ⟨rfl, rfl⟩
    go_wp2_with fail
    refine (Field.Put_any _ _ _ _ v0 v1 n0 (by decide) _).mono ?_
    rintro e w' ⟨rfl, rfl⟩
    rw [HP.out]
    go_wp2_with fail
    refine (Field.Get_any _ _ _ v0 v1 (by decide) _).mono ?_
    rintro e w' ⟨rfl, rfl⟩
    rw [HG.out]
    go_wp2_with fail
    refine (Law01.awake_any _).mono ?_
    rintro e w' ⟨rfl, rfl⟩
    go_wp2
    go_ret
    exact ⟨rfl, Frame.below_drewN ((Below.refl _ _).alloc (Nat.le_refl _) _) _⟩

theorem pow_bounds (b : Nat) (h : b < 64) : 1 ≤ (2 : Int) ^ b ∧ (2 : Int) ^ b ≤ 9223372036854775808 := by
  have h1 : 2 ^ b ≤ 2 ^ 63 := Nat.pow_le_pow_right (by decide) (by omega)
  have h2 : 1 ≤ 2 ^ b := Nat.two_pow_pos b
  have e : (2 : Int) ^ b = ((2 ^ b : Nat) : Int) := by simp
  rw [e]; omega
theorem got_eq (n b : Nat) : (((n % 2 ^ b : Nat) : Int) != (n : Int) % 2 ^ b) = false := by simp
theorem got_all (n : Nat) (h : n < 18446744073709551616) : n % 2 ^ 64 = n := Nat.mod_eq_of_lt h

/-- Both are fields, the first shorter than a word, and they share no bit. -/
theorem walk_apart (v n a b c d : Nat) (v1 : v < 18446744073709551616) (n1 : n < 18446744073709551616) (b0 : 1 ≤ b) (ab : a + b ≤ 64) (d0 : 1 ≤ d) (cd : c + d ≤ 64) (hb : b < 64) (hap : c + d ≤ a ∨ a + b ≤ c) (w : World) :
    Calls Try.prog 5 #[.int .u64 (v : Int), .int .u64 (n : Int), .agg #[.int .i64 (a : Int), .int .i64 (b : Int), .int .i64 (c : Int), .int .i64 (d : Int)]] w fun e w' => e = .returned (.bool true) ∧ Below w.heap.size w w' := by
  have H1 := Lib.hid (isB_true (a := a) (b := b) (by omega) (by omega) (by omega))
  have H2 := Lib.hid (isB_true (a := c) (b := d) (by omega) (by omega) (by omega))
  have hX := putN_lt v a b n v1 ab
  have HG := Lib.hid (get_put v a b n)
  have HB := Lib.hid (put_get v a b)
  have hg := getN_lt64 v a b (by omega)
  have HA := Lib.hid (get_put_apart v a b n c d hap)
  have HV := Lib.hid (got_eq n b)
  obtain ⟨p0, p1⟩ := pow_bounds b hb
  rcases hap with hap | hap
  all_goals
    go_enter Try.func5, Try.ntmps5
    generalize hXe : putN v a b n = X at *
    have HX := Lib.hid hXe
    clear hXe
    generalize hGe : getN v a b = G at *
    have HE := Lib.hid hGe
    clear hGe
    go_wp2
    go_quiet (fail)
    go_wp2_with fail
    refine (Field.Is_yes _ _ H1.out _).mono ?_
    rintro e w' ⟨rfl, rfl⟩
    go_wp2_with fail
    refine (Field.Is_yes _ _ H2.out _).mono ?_
    rintro e w' ⟨rfl, rfl⟩
    go_wp2_with fail
    refine (Field.Put_yes _ _ _ _ v1 b0 ab _).mono ?_
    rintro e w' ⟨rfl, rfl⟩
    rw [HX.out]
    go_wp2_with fail
    refine (Field.Get_yes _ _ _ hX b0 ab _).mono ?_
    rintro e w' ⟨rfl, rfl⟩
    rw [HG.out]
    go_wp2_with fail
    refine (Field.Get_yes _ _ _ hX d0 cd _).mono ?_
    rintro e w' ⟨rfl, rfl⟩
    rw [HA.out]
    go_wp2_with fail
    refine (Field.Get_yes _ _ _ v1 d0 cd _).mono ?_
    rintro e w' ⟨rfl, rfl⟩
    go_wp2_with fail
    refine (Field.Get_yes _ _ _ v1 b0 ab _).mono ?_
    rintro e w' ⟨rfl, rfl⟩
    rw [HE.out]
    go_wp2_with fail
    refine (Field.Put_yes _ _ _ _ v1 b0 ab _).mono ?_
    rintro e w' ⟨rfl, rfl⟩
    rw [HB.out]
    go_wp2_with fail
    refine (Law01.awake_any _).mono ?_
    rintro e w' ⟨rfl, rfl⟩
    go_wp2
    go_ret
    exact ⟨rfl, Frame.below_drewN ((Below.refl _ _).alloc (Nat.le_refl _) _) _⟩

/-- Both are fields, the first shorter than a word, and they share a bit. -/
theorem walk_share (v n a b c d : Nat) (v1 : v < 18446744073709551616) (n1 : n < 18446744073709551616) (b0 : 1 ≤ b) (ab : a + b ≤ 64) (d0 : 1 ≤ d) (cd : c + d ≤ 64) (hb : b < 64) (h1 : a < c + d) (h2 : c < a + b) (w : World) :
    Calls Try.prog 5 #[.int .u64 (v : Int), .int .u64 (n : Int), .agg #[.int .i64 (a : Int), .int .i64 (b : Int), .int .i64 (c : Int), .int .i64 (d : Int)]] w fun e w' => e = .returned (.bool true) ∧ Below w.heap.size w w' := by
  have H1 := Lib.hid (isB_true (a := a) (b := b) (by omega) (by omega) (by omega))
  have H2 := Lib.hid (isB_true (a := c) (b := d) (by omega) (by omega) (by omega))
  have hX := putN_lt v a b n v1 ab
  have HG := Lib.hid (get_put v a b n)
  have HB := Lib.hid (put_get v a b)
  have hg := getN_lt64 v a b (by omega)
  have HV := Lib.hid (got_eq n b)
  obtain ⟨p0, p1⟩ := pow_bounds b hb
  go_enter Try.func5, Try.ntmps5
  generalize hXe : putN v a b n = X at *
  have HX := Lib.hid hXe
  clear hXe
  generalize hGe : getN v a b = G at *
  have HE := Lib.hid hGe
  clear hGe
  go_wp2
  go_quiet (fail)
  go_wp2_with fail
  refine (Field.Is_yes _ _ H1.out _).mono ?_
  rintro e w' ⟨rfl, rfl⟩
  go_wp2_with fail
  refine (Field.Is_yes _ _ H2.out _).mono ?_
  rintro e w' ⟨rfl, rfl⟩
  go_wp2_with fail
  refine (Field.Put_yes _ _ _ _ v1 b0 ab _).mono ?_
  rintro e w' ⟨rfl, rfl⟩
  rw [HX.out]
  go_wp2_with fail
  refine (Field.Get_yes _ _ _ hX b0 ab _).mono ?_
  rintro e w' ⟨rfl, rfl⟩
  rw [HG.out]
  go_wp2_with fail
  refine (Field.Get_yes _ _ _ v1 b0 ab _).mono ?_
  rintro e w' ⟨rfl, rfl⟩
  rw [HE.out]
  go_wp2_with fail
  refine (Field.Put_yes _ _ _ _ v1 b0 ab _).mono ?_
  rintro e w' ⟨rfl, rfl⟩
  rw [HB.out]
  go_wp2_with fail
  refine (Law01.awake_any _).mono ?_
  rintro e w' ⟨rfl, rfl⟩
  go_wp2
  go_ret
  exact ⟨rfl, Frame.below_drewN ((Below.refl _ _).alloc (Nat.le_refl _) _) _⟩

/-- Both are fields, the first a whole word. -/
theorem walk_all (v n c d : Nat) (v1 : v < 18446744073709551616) (n1 : n < 18446744073709551616)  (d0 : 1 ≤ d) (cd : c + d ≤ 64)  (w : World) :
    Calls Try.prog 5 #[.int .u64 (v : Int), .int .u64 (n : Int), .agg #[.int .i64 0, .int .i64 64, .int .i64 (c : Int), .int .i64 (d : Int)]] w fun e w' => e = .returned (.bool true) ∧ Below w.heap.size w w' := by
  have H1 := Lib.hid (show isB 0 64 = true from by decide)
  have H2 := Lib.hid (isB_true (a := c) (b := d) (by omega) (by omega) (by omega))
  have hX := putN_lt v 0 64 n v1 (by decide)
  have HG := Lib.hid ((get_put v 0 64 n).trans (got_all n n1))
  have HB := Lib.hid (put_get v 0 64)
  have hg := getN_lt64 v 0 64 (by decide)
  go_enter Try.func5, Try.ntmps5
  generalize hXe : putN v 0 64 n = X at *
  have HX := Lib.hid hXe
  clear hXe
  generalize hGe : getN v 0 64 = G at *
  have HE := Lib.hid hGe
  clear hGe
  go_wp2
  go_quiet (fail)
  go_wp2_with fail
  refine (Field.Is_yes _ _ H1.out _).mono ?_
  rintro e w' ⟨rfl, rfl⟩
  go_wp2_with fail
  refine (Field.Is_yes _ _ H2.out _).mono ?_
  rintro e w' ⟨rfl, rfl⟩
  go_wp2_with fail
  refine (Field.Put_yes _ 0 64 _ v1 (by decide) (by decide) _).mono ?_
  rintro e w' ⟨rfl, rfl⟩
  rw [HX.out]
  go_wp2_with fail
  refine (Field.Get_yes _ 0 64 hX (by decide) (by decide) _).mono ?_
  rintro e w' ⟨rfl, rfl⟩
  rw [HG.out]
  go_wp2_with fail
  refine (Field.Get_yes _ 0 64 v1 (by decide) (by decide) _).mono ?_
  rintro e w' ⟨rfl, rfl⟩
  rw [HE.out]
  go_wp2_with fail
  refine (Field.Put_yes _ 0 64 _ v1 (by decide) (by decide) _).mono ?_
  rintro e w' ⟨rfl, rfl⟩
  rw [HB.out]
  go_wp2_with fail
  refine (Law01.awake_any _).mono ?_
  rintro e w' ⟨rfl, rfl⟩
  go_wp2
  go_ret
  exact ⟨rfl, Frame.below_drewN ((Below.refl _ _).alloc (Nat.le_refl _) _) _⟩

theorem walk (v n a b c d : Int) (wv : (Lit.int .u64 v).wf = true) (wn : (Lit.int .u64 n).wf = true) (wa : (Lit.int .i64 a).wf = true) (wb : (Lit.int .i64 b).wf = true) (wc : (Lit.int .i64 c).wf = true) (wd : (Lit.int .i64 d).wf = true) (w : World) :
    Calls Try.prog 5 #[.int .u64 v, .int .u64 n, .agg #[.int .i64 a, .int .i64 b, .int .i64 c, .int .i64 d]] w fun e w' => e = .returned (.bool true) ∧ Below w.heap.size w w' := by
  obtain ⟨v0, v1⟩ := wf_u64 wv
  obtain ⟨n0, n1⟩ := wf_u64 wn
  obtain ⟨_, a1⟩ := wf_i64 wa
  obtain ⟨_, c1⟩ := wf_i64 wc
  cases h : isB a b && isB c d
  · exact walk_no v n a b c d v0 v1 n0 a1 c1 h w
  · rw [Bool.and_eq_true] at h
    obtain ⟨g0, g1, g2⟩ := isB_out h.1
    obtain ⟨k0, k1, k2⟩ := isB_out h.2
    obtain ⟨v, rfl⟩ := Int.eq_ofNat_of_zero_le v0
    obtain ⟨n, rfl⟩ := Int.eq_ofNat_of_zero_le n0
    obtain ⟨a, rfl⟩ := Int.eq_ofNat_of_zero_le g0
    obtain ⟨b, rfl⟩ := Int.eq_ofNat_of_zero_le (a := b) (by omega)
    obtain ⟨c, rfl⟩ := Int.eq_ofNat_of_zero_le k0
    obtain ⟨d, rfl⟩ := Int.eq_ofNat_of_zero_le (a := d) (by omega)
    by_cases hb : b < 64
    · by_cases hap : c + d ≤ a ∨ a + b ≤ c
      · exact walk_apart v n a b c d (by omega) (by omega) (by omega) (by omega) (by omega) (by omega) hb hap w
      · exact walk_share v n a b c d (by omega) (by omega) (by omega) (by omega) (by omega) (by omega) hb (by omega) (by omega) w
    · obtain rfl : b = 64 := by omega
      obtain rfl : a = 0 := by omega
      exact walk_all v n c d (by omega) (by omega) (by omega) (by omega) w

theorem laidOut : laidOutB Try.prog = true := by kernel_rfl
theorem own : ownKnob Try.prog.godebug = none := by kernel_rfl
theorem lifted (os : Os) (started : os.Started) (H : Type) (enc : TypeId × Value → H) :
    ReturnsInHanded {} Try.checked os 5 .any (Rows.fieldBackSpec.pre6 enc Try.prog Try.f5 Rows.fieldBackRow.domain false) (Rows.fieldBackSpec.post enc Try.prog Try.f5 false true false false) := by
  refine Frame.lifted (C := Try.checked) (fn := Try.f5) (tb := 4) own started (by kernel_rfl) Try.func5
    (ChangeSpec.witness6 (enc := enc) (C := Try.checked) false ⟨#[], #[.int .u64 0, .int .u64 0, .agg #[.int .i64 0, .int .i64 0, .int .i64 0, .int .i64 0]], []⟩ 8 (by kernel_rfl) (by kernel_rfl) (by kernel_rfl) (by kernel_rfl))
    rfl rfl Try.underlying4 laidOut (by kernel_rfl) (fun ds h => by match ds, h with | [_, _, _], _ => rfl) ?_
  intro W base args ds ps hval0 hA0 hlt
  have hval : ∀ (j : Nat) t v, Try.f5.params[j]? = some t → args[j]? = some v → Value.okWide Try.prog W .any base t v := hval0
  have hA : DataW.TrodAll enc Try.prog W 0 (fun _ => true) true Try.f5.params.toList args.toList ds ps := hA0
  rw [Try.params5] at hA hval
  obtain ⟨v0, vs0, d0, ds0, p0, q0, hargs, rfl, rfl, h0, r0⟩ := trodAll_cons hA
  obtain ⟨v1, vs1, d1, ds1, p1, q1, rfl, rfl, rfl, h1, r1⟩ := trodAll_cons r0
  obtain ⟨v2, vs2, d2, ds2, p2, q2, rfl, rfl, rfl, h2, r2⟩ := trodAll_cons r1
  obtain ⟨rfl, rfl, rfl⟩ := trodAll_nil r2
  obtain rfl : args = #[v0, v1, v2] := by cases args; simp_all
  obtain ⟨a0, rfl, _, _, w0⟩ := open_int Try.underlying22 (hval 0 22 v0 rfl rfl) h0
  obtain ⟨a1, rfl, _, _, w1⟩ := open_int Try.underlying22 (hval 1 22 v1 rfl rfl) h1
  obtain ⟨z2, l2, rfl, g2⟩ := Frame.open_int_array Try.underlying32 Try.underlying3 (by kernel_rfl) (by kernel_rfl) (hval 2 32 v2 rfl rfl) h2
  obtain ⟨a2_0, a2_1, a2_2, a2_3, rfl, w2_0, w2_1, w2_2, w2_3⟩ := Frame.four_of l2 g2
  refine (walk a0 a1 a2_0 a2_1 a2_2 a2_3 w0 w1 w2_0 w2_1 w2_2 w2_3 W).mono fun e W' h => ?_
  exact h

theorem over : Rows.fieldBackRow.holds Try.pinned (OpenSpec.ofChange Rows.fieldBackSpec) :=
  OpenClaim.holds_of_wide 5 Try.f5 rfl rfl rfl rfl rfl rfl rfl ⟨rfl, rfl, rfl, rfl, rfl⟩ rfl rfl rfl rfl rfl (by kernel_rfl) Try.func5 (by kernel_rfl)
    (of_decide_eq_true (by kernel_rfl)) (by unfold Func.isWrapper; first | (rw [if_pos (by decide +kernel)]; kernel_rfl) | (rw [if_neg (by decide +kernel)]; exact ⟨rfl, rfl⟩))
    (fun os started H enc _ => lifted os started H enc)

theorem proved : Rows.FieldBackSaid := over
#print axioms proved
end Go.Proofs.Ytlahojinplmojaa.FieldBack
