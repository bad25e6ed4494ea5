/- For every three keys the law OrderTotal answers true, and they read as they did: no condition. -/
import Derived.Test.YthbdhohbdidcnaaFrame
import Derived.Test.YthbdhohbdidcnaaOrderAwake
import Derived.Test.YthbdhohbdidcnaaOrderRef
namespace Go.Proofs.Ythbdhohbdidcnaa.OrderTotal
open Go.ChangeShapes Go.WideShapes Go.ChangeAt Go.RowKit OM Lay Order

/-- How three keys lie: by x and y, and, where x is less, by y and z. -/
theorem lies (x y z : Key) : (cmpK x y = 0 ∧ cmpK y x = 0 ∧ x = y) ∨ (cmpK x y = 1 ∧ cmpK y x = -1 ∧ ¬ x = y) ∨
    (cmpK x y = -1 ∧ cmpK y x = 1 ∧ ¬ x = y ∧ (cmpK y z = 0 ∨ cmpK y z = 1)) ∨ (cmpK x y = -1 ∧ cmpK y x = 1 ∧ ¬ x = y ∧ cmpK y z = -1 ∧ cmpK x z = -1) := by
  rcases cmpK_cases x y with ⟨h1, h2, e⟩ | ⟨h1, h2, e⟩ | ⟨h1, h2, h3, e⟩
  · have hne : ¬ x = y := fun h => by subst h; rw [h1] at h2; cases h2
    have e2 : cmpK y x = 1 := by
      rcases cmpK_cases y x with ⟨g, _, _⟩ | ⟨_, _, g⟩ | ⟨g, _⟩
      · rw [h2] at g; cases g
      · exact g
      · exact absurd g.symm hne
    rcases cmpK_cases y z with ⟨g1, g2, g⟩ | ⟨_, _, g⟩ | ⟨_, _, _, g⟩
    · refine .inr (.inr (.inr ⟨e, e2, hne, g, ?_⟩))
      have t := ltK_trans x y z h1 g1
      rcases cmpK_cases x z with ⟨_, _, k⟩ | ⟨k, _, _⟩ | ⟨_, k, _⟩
      · exact k
      · rw [t] at k; cases k
      · rw [t] at k; cases k
    · exact .inr (.inr (.inl ⟨e, e2, hne, .inr g⟩))
    · exact .inr (.inr (.inl ⟨e, e2, hne, .inl g⟩))
  · have hne : ¬ x = y := fun h => by subst h; rw [h1] at h2; cases h2
    have e2 : cmpK y x = -1 := by
      rcases cmpK_cases y x with ⟨_, _, g⟩ | ⟨g, _, _⟩ | ⟨g, _⟩
      · exact g
      · rw [h2] at g; cases g
      · exact absurd g.symm hne
    exact .inr (.inl ⟨e, e2, hne⟩)
  · subst h1
    exact .inl ⟨e, e, rfl⟩

set_option maxHeartbeats 2000000 in
theorem walk (x y z : Key) (_ : (Lit.int .i64 x.1).wf = true) (_ : (Lit.int .u64 x.2).wf = true) (_ : (Lit.int .i64 y.1).wf = true) (_ : (Lit.int .u64 y.2).wf = true) (_ : (Lit.int .i64 z.1).wf = true) (_ : (Lit.int .u64 z.2).wf = true) (w : World) :
    Calls Try.prog 4 #[.agg #[.int .i64 x.1, .int .u64 x.2], .agg #[.int .i64 y.1, .int .u64 y.2], .agg #[.int .i64 z.1, .int .u64 z.2]] w fun e w' => e = .returned (.bool true) ∧ Below w.heap.size w w' := by
  have hx := box3 w #[.int .i64 x.1, .int .u64 x.2] #[.int .i64 y.1, .int .u64 y.2] #[.int .i64 z.1, .int .u64 z.2] 25 25 25
  obtain ⟨hB, q1, q2, q3⟩ := hx
  have p1 := q1 0
  have p2 := q1 1
  have p3 := q2 0
  have p4 := q2 1
  have p5 := q3 0
  have p6 := q3 1
  simp at p1 p2 p3 p4 p5 p6
  clear q1 q2 q3
  have B1 := fun p : After _ => p.cell p1
  have B2 := fun p : After _ => p.cell p2
  have B3 := fun p : After _ => p.cell p3
  have B4 := fun p : After _ => p.cell p4
  have P1 := Lib.hid p1
  have P2 := Lib.hid p2
  have P3 := Lib.hid p3
  have P4 := Lib.hid p4
  have P5 := Lib.hid p5
  have P6 := Lib.hid p6
  have HB := Lib.hid hB
  clear p1 p2 p3 p4 p5 p6 hB
  have N := fun W => OrderRef.eqlK x y W
  have hgu := OrderRef.guardK
  rcases lies x y z with ⟨h1, h2, h3⟩ | ⟨h1, h2, h3⟩ | ⟨h1, h2, h3, h4⟩ | ⟨h1, h2, h3, h4, h5⟩
  · have H1 := Lib.hid h1
    have H2 := Lib.hid h2
    rw [decide_eq_true h3] at N
    clear h1 h2 h3
    go_enter Try.func4, Try.ntmps4
    go_wp2
    refine wp_region_after mixed (by kernel_rfl) ?_
    repeat (first | go_big_quiet_step ((first | (with_reducible exact calls_after (Cmp_is H1.out _)) | exact calls_after (Cmp_is H2.out _))) | quiet_step ((first | (with_reducible exact calls_after (Cmp_is H1.out _)) | exact calls_after (Cmp_is H2.out _))))
    refine wpQuiet_nil ?_
    intro _ hw'
    obtain ⟨pq, hw''⟩ := hw'
    subst hw''
    have hq := pq.ok
    have d1 := pq.cell P1.out
    have d2 := pq.cell P2.out
    have d3 := pq.cell P3.out
    have d4 := pq.cell P4.out
    have d5 := pq.cell P5.out
    have d6 := pq.cell P6.out
    generalize pq.x = wq at hq d1 d2 d3 d4 d5 d6 ⊢
    clear B1 B2 B3 B4 P1 P2 P3 P4 P5 P6
    have hW := HB.out.trans (hq.mono HB.out.size)
    clear hq
    go_wp2_with fail
    refine (Law03.awake_any _).mono ?_
    rintro e w' ⟨rfl, hb1⟩
    go_wp2
    go_ret
    exact ⟨rfl, hW.trans (hb1.mono hW.size)⟩
  · have H1 := Lib.hid h1
    have H2 := Lib.hid h2
    rw [decide_eq_false h3] at N
    clear h1 h2 h3
    go_enter Try.func4, Try.ntmps4
    go_wp2
    refine wp_region_after mixed (by kernel_rfl) ?_
    repeat (first | go_big_quiet_step ((first | (with_reducible exact calls_after (Cmp_is H1.out _)) | exact calls_after (Cmp_is H2.out _))) | quiet_step ((first | (with_reducible exact calls_after (Cmp_is H1.out _)) | exact calls_after (Cmp_is H2.out _))))
    refine wpQuiet_nil ?_
    intro _ hw'
    obtain ⟨pq, hw''⟩ := hw'
    subst hw''
    have hq := pq.ok
    have d1 := pq.cell P1.out
    have d2 := pq.cell P2.out
    have d3 := pq.cell P3.out
    have d4 := pq.cell P4.out
    have d5 := pq.cell P5.out
    have d6 := pq.cell P6.out
    generalize pq.x = wq at hq d1 d2 d3 d4 d5 d6 ⊢
    clear B1 B2 B3 B4 P1 P2 P3 P4 P5 P6
    have hW := HB.out.trans (hq.mono HB.out.size)
    clear hq
    go_wp2_with fail
    refine (Law03.awake_any _).mono ?_
    rintro e w' ⟨rfl, hb1⟩
    go_wp2
    go_ret
    exact ⟨rfl, hW.trans (hb1.mono hW.size)⟩
  · have H1 := Lib.hid h1
    have H2 := Lib.hid h2
    rw [decide_eq_false h3] at N
    have H40 := Lib.hid h4
    clear h1 h2 h3 h4
    go_enter Try.func4, Try.ntmps4
    go_wp2
    refine wp_region_after mixed (by kernel_rfl) ?_
    repeat (first | go_big_quiet_step ((first | (with_reducible exact calls_after (Cmp_is H1.out _)) | exact calls_after (Cmp_is H2.out _))) | quiet_step ((first | (with_reducible exact calls_after (Cmp_is H1.out _)) | exact calls_after (Cmp_is H2.out _))))
    refine wpQuiet_nil ?_
    intro _ hw'
    obtain ⟨pq, hw''⟩ := hw'
    subst hw''
    have hq := pq.ok
    have d1 := pq.cell P1.out
    have d2 := pq.cell P2.out
    have d3 := pq.cell P3.out
    have d4 := pq.cell P4.out
    have d5 := pq.cell P5.out
    have d6 := pq.cell P6.out
    generalize pq.x = wq at hq d1 d2 d3 d4 d5 d6 ⊢
    clear B1 B2 B3 B4 P1 P2 P3 P4 P5 P6
    have hW := HB.out.trans (hq.mono HB.out.size)
    clear hq
    rcases H40.out with h4 | h4
    all_goals
      have H4 := Lib.hid h4
      clear h4
      go_wp2_with fail
      refine (Cmp_is H4.out _).mono ?_
      rintro e w' ⟨rfl, hb1⟩
      go_wp2_with fail
      refine (Law03.awake_any _).mono ?_
      rintro e w' ⟨rfl, hb2⟩
      go_wp2
      go_ret
      exact ⟨rfl, hW.trans ((hb1.trans (hb2.mono hb1.size)).mono hW.size)⟩
  · have H1 := Lib.hid h1
    have H2 := Lib.hid h2
    rw [decide_eq_false h3] at N
    have H4 := Lib.hid h4
    have H5 := Lib.hid h5
    clear h1 h2 h3 h4 h5
    go_enter Try.func4, Try.ntmps4
    go_wp2
    refine wp_region_after mixed (by kernel_rfl) ?_
    repeat (first | go_big_quiet_step ((first | (with_reducible exact calls_after (Cmp_is H1.out _)) | exact calls_after (Cmp_is H2.out _))) | quiet_step ((first | (with_reducible exact calls_after (Cmp_is H1.out _)) | exact calls_after (Cmp_is H2.out _))))
    refine wpQuiet_nil ?_
    intro _ hw'
    obtain ⟨pq, hw''⟩ := hw'
    subst hw''
    have hq := pq.ok
    have d1 := pq.cell P1.out
    have d2 := pq.cell P2.out
    have d3 := pq.cell P3.out
    have d4 := pq.cell P4.out
    have d5 := pq.cell P5.out
    have d6 := pq.cell P6.out
    generalize pq.x = wq at hq d1 d2 d3 d4 d5 d6 ⊢
    clear B1 B2 B3 B4 P1 P2 P3 P4 P5 P6
    have hW := HB.out.trans (hq.mono HB.out.size)
    clear hq
    go_wp2_with fail
    refine (Cmp_is H4.out _).mono ?_
    rintro e w' ⟨rfl, hb1⟩
    have g1 := cell_later hb1 d1
    have g2 := cell_later hb1 d2
    have g5 := cell_later hb1 d5
    have g6 := cell_later hb1 d6
    clear d1 d2 d3 d4 d5 d6
    go_wp2_with fail
    refine (Cmp_is H5.out _).mono ?_
    rintro e w' ⟨rfl, hb2⟩
    go_wp2_with fail
    refine (Law03.awake_any _).mono ?_
    rintro e w' ⟨rfl, hb3⟩
    go_wp2
    go_ret
    exact ⟨rfl, hW.trans (((hb1.trans (hb2.mono hb1.size)).trans (hb3.mono (Nat.le_trans hb1.size hb2.size))).mono hW.size)⟩
theorem laidOut : laidOutB Try.prog = true := by kernel_rfl
theorem own : ownKnob Try.prog.godebug = none := by kernel_rfl
theorem lifted (os : Os) (started : os.Started) (H : Type) (enc : TypeId × Value → H) :
    ReturnsInHanded {} Try.checked os 4 .any (Rows.orderTotalSpec.pre6 enc Try.prog Try.f4 Rows.orderTotalRow.domain false) (Rows.orderTotalSpec.post enc Try.prog Try.f4 false true false false) := by
  refine Frame.lifted (C := Try.checked) (fn := Try.f4) (tb := 4) own started (by kernel_rfl) Try.func4
    (ChangeSpec.witness6 (enc := enc) (C := Try.checked) false ⟨#[], #[.agg #[.int .i64 0, .int .u64 0], .agg #[.int .i64 0, .int .u64 0], .agg #[.int .i64 0, .int .u64 0]], []⟩ 8 (by kernel_rfl) (by kernel_rfl) (by kernel_rfl) (by kernel_rfl))
    rfl rfl Try.underlying4 laidOut (by kernel_rfl) (fun ds h => by match ds, h with | [_, _, _], _ => rfl) ?_
  intro W base args ds ps hval0 hA0 hlt
  have hval : ∀ (j : Nat) t v, Try.f4.params[j]? = some t → args[j]? = some v → Value.okWide Try.prog W .any base t v := hval0
  have hA : DataW.TrodAll enc Try.prog W 0 (fun _ => true) true Try.f4.params.toList args.toList ds ps := hA0
  rw [Try.params4] at hA hval
  obtain ⟨v0, vs0, d0, ds0, p0, q0, hargs, rfl, rfl, h0, r0⟩ := trodAll_cons hA
  obtain ⟨v1, vs1, d1, ds1, p1, q1, rfl, rfl, rfl, h1, r1⟩ := trodAll_cons r0
  obtain ⟨v2, vs2, d2, ds2, p2, q2, rfl, rfl, rfl, h2, r2⟩ := trodAll_cons r1
  obtain ⟨rfl, rfl, rfl⟩ := trodAll_nil r2
  obtain rfl : args = #[v0, v1, v2] := by cases args; simp_all
  obtain ⟨x0, rfl, w0_0, w0_1⟩ := Open.open_two_ints Try.underlying25 (by kernel_rfl) (by kernel_rfl) Try.underlying3 Try.underlying23 (hval 0 25 v0 rfl rfl) h0
  obtain ⟨x1, rfl, w1_0, w1_1⟩ := Open.open_two_ints Try.underlying25 (by kernel_rfl) (by kernel_rfl) Try.underlying3 Try.underlying23 (hval 1 25 v1 rfl rfl) h1
  obtain ⟨x2, rfl, w2_0, w2_1⟩ := Open.open_two_ints Try.underlying25 (by kernel_rfl) (by kernel_rfl) Try.underlying3 Try.underlying23 (hval 2 25 v2 rfl rfl) h2
  refine (walk x0 x1 x2 w0_0 w0_1 w1_0 w1_1 w2_0 w2_1 W).mono fun e W' h => ?_
  exact h

theorem over : Rows.orderTotalRow.holds Try.pinned (OpenSpec.ofChange Rows.orderTotalSpec) :=
  OpenClaim.holds_of_wide 4 Try.f4 rfl rfl rfl rfl rfl rfl rfl ⟨rfl, rfl, rfl, rfl, rfl⟩ rfl rfl rfl rfl rfl (by kernel_rfl) Try.func4 (by kernel_rfl)
    (of_decide_eq_true (by kernel_rfl)) (by unfold Func.isWrapper; first | (rw [if_pos (by decide +kernel)]; kernel_rfl) | (rw [if_neg (by decide +kernel)]; exact ⟨rfl, rfl⟩))
    (fun os started H enc _ => lifted os started H enc)

theorem proved : Rows.OrderTotalSaid := over
#print axioms proved
end Go.Proofs.Ythbdhohbdidcnaa.OrderTotal
