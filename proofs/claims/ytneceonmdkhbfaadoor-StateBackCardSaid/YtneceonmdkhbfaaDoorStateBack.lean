/- StateBack: for every generation and status, and every other one, the state that package state makes of the former is a state of just these, or of none, if there are none such; and the chapter's examples come out. Conditions: the listed tables of the library and of package state hold what the program's own text lays in them (tied by the card). -/
import Derived.Test.YtneceonmdkhbfaaDoorStateAwake
import Derived.Test.YtneceonmdkhbfaaDoorCards
import Derived.Test.YtneceonmdkhbfaaDoorOpen
import Derived.Deep.RegionHeld3
namespace Go.Proofs.YtneceonmdkhbfaaDoor.StateBack
open Go.ChangeShapes Go.WideShapes Go.ChangeAt Go.RowKit FM SM Str Fmt StateText Lay
open Go.Proofs.YtneceonmdkhbfaaDoor.Law04 (wf_u64 wf_i64 Held)
set_option linter.unusedVariables false

theorem held {W : World} (h : laidMetH Tryd.prog Rows.stateBackRow.laid W) : Held W :=
  Law04.held_of h (by kernel_rfl) (List.mem_of_getElem? (i := 3) rfl) (List.mem_of_getElem? (i := 2) rfl)

theorem mixed : Tryd.prog.follows .mixedOrders = true := by kernel_rfl
theorem Is_is {v g s : Int} {b : Bool} (g0 : 0 ≤ g) (h : isI v g s = b) (w : World) : Calls Tryd.prog 12 #[.int .u64 v, .int .u64 g, .int .i64 s] w fun e w' => e = .returned (.bool b) ∧ w = w' := by
  rw [← h]; exact State.Is_any v g s g0 w

theorem start (w : World) (a b : Value) (t : TypeId) : let W := (w.alloc (.cells #[a, b] t)).drew; W.cell? ⟨w.heap.size, 0, none⟩ = some a ∧ W.cell? ⟨w.heap.size, 1, none⟩ = some b ∧ Below w.heap.size w W :=
  ⟨box_cell (Below.refl _ _) 0, box_cell (Below.refl _ _) 1, ((Below.refl _ _).alloc (Nat.le_refl _) _).drew⟩
theorem keep {w W w' : World} {a b : Value} (h : W.cell? ⟨w.heap.size, 0, none⟩ = some a ∧ W.cell? ⟨w.heap.size, 1, none⟩ = some b ∧ Below w.heap.size w W)
    (hb : Below W.heap.size W w') : w'.cell? ⟨w.heap.size, 0, none⟩ = some a ∧ w'.cell? ⟨w.heap.size, 1, none⟩ = some b ∧ Below w.heap.size w w' :=
  ⟨cell_later hb h.1, cell_later hb h.2.1, h.2.2.trans (hb.mono h.2.2.size)⟩
theorem heldS {w W : World} {a b : Value} (h : W.cell? ⟨w.heap.size, 0, none⟩ = some a ∧ W.cell? ⟨w.heap.size, 1, none⟩ = some b ∧ Below w.heap.size w W) (hL : Held w) : Held W := hL.later h.2.2

/-- The way out of range. -/
theorem walk_out (g s : Int) (x : Int × Int) (g0 : 0 ≤ g) (h : ¬ (g ≤ 4294967295 ∧ 0 ≤ s ∧ s ≤ 4)) (w : World) (hL : Held w) :
    Calls Tryd.prog 4 #[.int .u64 g, .int .i64 s, .agg #[.int .u64 x.1, .int .i64 x.2]] w fun e w' => e = .returned (.bool true) ∧ Below w.heap.size w w' := by
  have hB := (Below.refl w.heap.size w).alloc (Nat.le_refl _) (.cells #[.int .u64 x.1, .int .i64 x.2] 30)
  have HL := Lib.hid (hL.later hB)
  have HB := Lib.hid hB
  have E := Lib.hid (is_out (v := stI g s) h)
  clear hL hB
  by_cases h1 : g ≤ 4294967295
  · by_cases h2 : 0 ≤ s
    · have d1 : decide (4294967295 < g) = false := decide_eq_false (by omega)
      have d2 : decide (s < 0) = false := decide_eq_false (by omega)
      have d3 : decide (4 < s) = true := decide_eq_true (by omega)
      clear h h1 h2
      go_enter Tryd.func4, Tryd.ntmps4
      go_wp2_with fail
      refine (State.Of_any _ _ g0 _).mono ?_
      rintro e w' ⟨rfl, rfl⟩
      go_wp2_with fail
      refine (Is_is g0 E.out _).mono ?_
      rintro e w' ⟨rfl, rfl⟩
      go_wp2_with fail
      refine (Law04.awake_any _ HL.out).mono ?_
      rintro e w' ⟨rfl, hb⟩
      go_wp2
      go_ret
      exact ⟨rfl, HB.out.trans (hb.mono HB.out.size)⟩
    · have d1 : decide (4294967295 < g) = false := decide_eq_false (by omega)
      have d2 : decide (s < 0) = true := decide_eq_true (by omega)
      clear h h1 h2
      go_enter Tryd.func4, Tryd.ntmps4
      go_wp2_with fail
      refine (State.Of_any _ _ g0 _).mono ?_
      rintro e w' ⟨rfl, rfl⟩
      go_wp2_with fail
      refine (Is_is g0 E.out _).mono ?_
      rintro e w' ⟨rfl, rfl⟩
      go_wp2_with fail
      refine (Law04.awake_any _ HL.out).mono ?_
      rintro e w' ⟨rfl, hb⟩
      go_wp2
      go_ret
      exact ⟨rfl, HB.out.trans (hb.mono HB.out.size)⟩
  · have d1 : decide (4294967295 < g) = true := decide_eq_true (by omega)
    clear h h1
    go_enter Tryd.func4, Tryd.ntmps4
    go_wp2_with fail
    refine (State.Of_any _ _ g0 _).mono ?_
    rintro e w' ⟨rfl, rfl⟩
    go_wp2_with fail
    refine (Is_is g0 E.out _).mono ?_
    rintro e w' ⟨rfl, rfl⟩
    go_wp2_with fail
    refine (Law04.awake_any _ HL.out).mono ?_
    rintro e w' ⟨rfl, hb⟩
    go_wp2
    go_ret
    exact ⟨rfl, HB.out.trans (hb.mono HB.out.size)⟩

set_option maxHeartbeats 1000000 in
theorem walk_within (g s a b : Int) (g0 : 0 ≤ g) (a0 : 0 ≤ a) (h1 : g ≤ 4294967295) (h2 : 0 ≤ s) (h3 : s ≤ 4) (w : World) (hL : Held w) :
    Calls Tryd.prog 4 #[.int .u64 g, .int .i64 s, .agg #[.int .u64 a, .int .i64 b]] w fun e w' => e = .returned (.bool true) ∧ Below w.heap.size w w' := by
  have d1 : decide (4294967295 < g) = false := decide_eq_false (by omega)
  have d2 : decide (s < 0) = false := decide_eq_false (by omega)
  have d3 : decide (4 < s) = false := decide_eq_false (by omega)
  have v0 := stI_lo g s
  have V1 := Lib.hid (stI_hi g s)
  have E1 := Lib.hid (stI_gen (s := s) g0 h1)
  have E2 := Lib.hid (stI_status (g := g) (s := s) h2 (by omega))
  have E3 := Lib.hid (show isI (stI g s) g s = true by rw [is_st g0 h1 h2 h3 g0]; simp)
  have e4 := is_st (og := a) (os := b) g0 h1 h2 h3 a0
  have HL := Lib.hid hL
  clear hL h1 h2 h3
  by_cases ha : g = a
  · by_cases hb : s = b
    · subst ha; subst hb
      clear e4
      go_enter Tryd.func4, Tryd.ntmps4
      go_wp2_with fail
      refine (State.Of_any _ _ g0 _).mono ?_
      rintro e w' ⟨rfl, rfl⟩
      go_wp2_with fail
      refine (State.Gen_any _ v0 V1.out _).mono ?_
      rintro e w' ⟨rfl, rfl⟩
      rw [E1.out]
      go_wp2_with fail
      refine (State.Status_any _ v0 V1.out _).mono ?_
      rintro e w' ⟨rfl, rfl⟩
      rw [E2.out]
      go_wp2_with fail
      refine (Is_is g0 E3.out _).mono ?_
      rintro e w' ⟨rfl, rfl⟩
      go_wp2
      go_region_held3 (fun w' => w'.cell? ⟨w.heap.size, 0, none⟩ = some (.int .u64 g) ∧ w'.cell? ⟨w.heap.size, 1, none⟩ = some (.int .i64 s) ∧ Below w.heap.size w w')
        ((first | exact start w _ _ _ | exact keep (by assumption) (by assumption)))
        (first
          | (go_at_call 12; refine (Is_is g0 E3.out _).mono ?_; rintro e w' ⟨rfl, rfl⟩)
          | (go_at_call 18; refine (Law04.awake_any _ (heldS (by assumption) HL.out)).mono ?_; rintro e w5 ⟨rfl, hb5⟩))
      go_wp2
      go_ret
      rename_i hh
      exact ⟨rfl, hh.2.2⟩
    · have E4 := Lib.hid (show isI (stI g s) a b = false by rw [e4]; exact decide_eq_false fun x => hb x.2)
      have hb' : (s == b) = false := by simpa using hb
      subst ha
      clear e4
      go_enter Tryd.func4, Tryd.ntmps4
      go_wp2_with fail
      refine (State.Of_any _ _ g0 _).mono ?_
      rintro e w' ⟨rfl, rfl⟩
      go_wp2_with fail
      refine (State.Gen_any _ v0 V1.out _).mono ?_
      rintro e w' ⟨rfl, rfl⟩
      rw [E1.out]
      go_wp2_with fail
      refine (State.Status_any _ v0 V1.out _).mono ?_
      rintro e w' ⟨rfl, rfl⟩
      rw [E2.out]
      go_wp2_with fail
      refine (Is_is g0 E3.out _).mono ?_
      rintro e w' ⟨rfl, rfl⟩
      go_wp2
      go_region_held3 (fun w' => w'.cell? ⟨w.heap.size, 0, none⟩ = some (.int .u64 g) ∧ w'.cell? ⟨w.heap.size, 1, none⟩ = some (.int .i64 b) ∧ Below w.heap.size w w')
        ((first | exact start w _ _ _ | exact keep (by assumption) (by assumption)))
        (first
          | (go_at_call 12; refine (Is_is a0 E4.out _).mono ?_; rintro e w' ⟨rfl, rfl⟩)
          | (go_at_call 18; refine (Law04.awake_any _ (heldS (by assumption) HL.out)).mono ?_; rintro e w5 ⟨rfl, hb5⟩))
      go_wp2
      go_ret
      rename_i hh
      exact ⟨rfl, hh.2.2⟩
  · have E4 := Lib.hid (show isI (stI g s) a b = false by rw [e4]; exact decide_eq_false fun x => ha x.1)
    have ha' : (g == a) = false := by simpa using ha
    have hB := (Below.refl w.heap.size w).alloc (Nat.le_refl _) (.cells #[.int .u64 a, .int .i64 b] 30)
    have HB := Lib.hid hB
    have HW := Lib.hid (HL.out.later hB)
    have c0 : (w.alloc (.cells #[.int .u64 a, .int .i64 b] 30)).cell? ⟨w.heap.size, 0, none⟩ = some (.int .u64 a) := box_cell (Below.refl _ _) 0
    have c1 : (w.alloc (.cells #[.int .u64 a, .int .i64 b] 30)).cell? ⟨w.heap.size, 1, none⟩ = some (.int .i64 b) := box_cell (Below.refl _ _) 1
    have C0 := fun p : After (w.alloc (.cells #[.int .u64 a, .int .i64 b] 30)) => p.cell c0
    have C1 := fun p : After (w.alloc (.cells #[.int .u64 a, .int .i64 b] 30)) => p.cell c1
    clear e4 hB c0 c1
    go_enter Tryd.func4, Tryd.ntmps4
    go_wp2_with fail
    refine (State.Of_any _ _ g0 _).mono ?_
    rintro e w' ⟨rfl, rfl⟩
    go_wp2_with fail
    refine (State.Gen_any _ v0 V1.out _).mono ?_
    rintro e w' ⟨rfl, rfl⟩
    rw [E1.out]
    go_wp2_with fail
    refine (State.Status_any _ v0 V1.out _).mono ?_
    rintro e w' ⟨rfl, rfl⟩
    rw [E2.out]
    go_wp2_with fail
    refine (Is_is g0 E3.out _).mono ?_
    rintro e w' ⟨rfl, rfl⟩
    go_wp2
    refine wp_region_after mixed (by kernel_rfl) ?_
    repeat (first | go_big_quiet_step ((first | (with_reducible exact calls_after_same (Is_is a0 E4.out _)) | (with_reducible exact calls_after (Law04.awake_any _ (HW.out.later (After.ok _)))))) | quiet_step ((first | (with_reducible exact calls_after_same (Is_is a0 E4.out _)) | (with_reducible exact calls_after (Law04.awake_any _ (HW.out.later (After.ok _)))))))
    refine wpQuiet_nil ?_
    intro _ hw'
    obtain ⟨pq, hw''⟩ := hw'
    subst hw''
    go_wp2
    go_ret
    exact ⟨rfl, HB.out.trans (pq.ok.mono HB.out.size)⟩

theorem walk (g s : Int) (x : Int × Int) (wg : (Lit.int .u64 g).wf = true) (ws : (Lit.int .i64 s).wf = true) (w1 : (Lit.int .u64 x.1).wf = true) (w2 : (Lit.int .i64 x.2).wf = true) (w : World) (hL : Held w) :
    Calls Tryd.prog 4 #[.int .u64 g, .int .i64 s, .agg #[.int .u64 x.1, .int .i64 x.2]] w fun e w' => e = .returned (.bool true) ∧ Below w.heap.size w w' := by
  by_cases h : g ≤ 4294967295 ∧ 0 ≤ s ∧ s ≤ 4
  · exact walk_within g s x.1 x.2 (wf_u64 wg).1 (wf_u64 w1).1 h.1 h.2.1 h.2.2 w hL
  · exact walk_out g s x (wf_u64 wg).1 h w hL

theorem laidOut : laidOutB Tryd.prog = true := by kernel_rfl
theorem own : ownKnob Tryd.prog.godebug = none := by kernel_rfl
theorem door_met (os : Os) (args : Array Value) : laidMetH Tryd.prog Rows.stateBackRow.laid ((World.doorLaid Tryd.prog 400 os).forCall (fun _ _ => 0) ⟨#[], args, []⟩).memory :=
  laidMetH_of_parts3 (fuel := 8) (laidMet_of_run' 8 (by kernel_rfl) (by kernel_rfl)) (by kernel_rfl) (by kernel_rfl)
set_option maxRecDepth 100000 in
theorem lifted (os : Os) (started : os.Started) (H : Type) (enc : TypeId × Value → H) :
    ReturnsInHanded {} Tryd.checked os 4 .any (fun w args => (Rows.stateBackSpec.pre enc Tryd.prog Tryd.f4 [] false w args ∧ laidMetH Tryd.prog Rows.stateBackRow.laid w) ∧ sizedMet enc Tryd.prog Tryd.f4 (OpenSpec.ofChange Rows.stateBackSpec) false w args) (Rows.stateBackSpec.post enc Tryd.prog Tryd.f4 false true false false) := by
  refine Frame.liftedLaid (C := Tryd.checked) (fn := Tryd.f4) (tb := 4) own started (by kernel_rfl) Tryd.func4
    (ChangeSpec.witness_shaped (enc := enc) (C := Tryd.checked) (os := os) (X := fun w _ => laidMetH Tryd.prog Rows.stateBackRow.laid w) false (World.doorLaid Tryd.prog 400 os) #[.int .u64 0, .int .i64 0, .agg #[.int .u64 0, .int .i64 0]] 8 rfl (World.shaped_of_RefB (by kernel_rfl) (by kernel_rfl)) (by kernel_rfl) (by kernel_rfl) (by kernel_rfl) (door_met os _))
    rfl rfl Tryd.underlying4 laidOut (by kernel_rfl) (fun ds h => by match ds, h with | [_, _, _], _ => rfl) ?_
  intro W base args ds ps hval0 hA0 hlt hL
  have hval : ∀ (j : Nat) t v, Tryd.f4.params[j]? = some t → args[j]? = some v → Value.okWide Tryd.prog W .any base t v := hval0
  have hA : DataW.TrodAll enc Tryd.prog W 0 (fun _ => true) true Tryd.f4.params.toList args.toList ds ps := hA0
  rw [Tryd.params4] at hA hval
  obtain ⟨v0, vs0, d0, ds0, p0, q0, hargs, rfl, rfl, h0, r0⟩ := trodAll_cons hA
  obtain ⟨v1, vs1, d1, ds1, p1, q1, rfl, rfl, rfl, h1, r1⟩ := trodAll_cons r0
  obtain ⟨v2, vs2, d2, ds2, p2, q2, rfl, rfl, rfl, h2, r2⟩ := trodAll_cons r1
  obtain ⟨rfl, rfl, rfl⟩ := trodAll_nil r2
  obtain rfl : args = #[v0, v1, v2] := by cases args; simp_all
  obtain ⟨a0, rfl, _, _, w0⟩ := open_int Tryd.underlying22 (hval 0 22 v0 rfl rfl) h0
  obtain ⟨a1, rfl, _, _, w1⟩ := open_int Tryd.underlying3 (hval 1 3 v1 rfl rfl) h1
  obtain ⟨x2, rfl, w2_0, w2_1⟩ := Open.open_two_ints Tryd.underlying30 (by kernel_rfl) (by kernel_rfl) Tryd.underlying22 Tryd.underlying3 (hval 2 30 v2 rfl rfl) h2
  refine (walk a0 a1 x2 w0 w1 w2_0 w2_1 W (held hL)).mono fun e W' h => ?_
  exact h

theorem over : Rows.stateBackRow.holds Tryd.pinned (OpenSpec.ofChange Rows.stateBackSpec) :=
  OpenClaim.holds_of_wide 4 Tryd.f4 rfl rfl rfl rfl rfl rfl rfl ⟨rfl, rfl, rfl, rfl, rfl⟩ rfl rfl rfl rfl rfl (by kernel_rfl) Tryd.func4 (by kernel_rfl)
    (of_decide_eq_true (by kernel_rfl)) (by unfold Func.isWrapper; first | (rw [if_pos (by decide +kernel)]; kernel_rfl) | (rw [if_neg (by decide +kernel)]; exact ⟨rfl, rfl⟩))
    (fun os started H enc _ => lifted os started H enc)

theorem proved : Rows.StateBackCardSaid :=
  Claim7.holds_tied_plain_at .later [] Rows.stateBackCard.laidKinds true Rows.stateBackCard.stood.harness Rows.stateBackCard.stood.looks
    over (fun _ h => by cases h) (by kernel_rfl) (fun _ h => by cases h) stateBack_row_tie rfl ⟨rfl, rfl⟩ (by kernel_rfl) rfl
    (fun f fn hf hfn => by
      obtain rfl : f = 4 := Option.some.inj ((show Tryd.prog.funcNamed Rows.stateBackRow.func = some 4 by kernel_rfl).symm.trans hf) |>.symm
      obtain rfl : fn = Tryd.f4 := (Option.some.inj (Tryd.func4.symm.trans hfn)).symm
      exact ⟨by kernel_rfl, fun j t ht => by
        rw [Tryd.params4] at ht
        have hm : t ∈ [22, 3, 30] := by simpa using Array.mem_of_getElem? ht
        have hall : ([22, 3, 30].all fun u => !Tryd.prog.wantsStandIn u) = true := by kernel_rfl
        exact (show Tryd.prog.wantsStandIn t = false by simpa using List.all_eq_true.1 hall t hm)⟩)
    (by kernel_rfl)
#print axioms proved
end Go.Proofs.YtneceonmdkhbfaaDoor.StateBack
