/- StateOnce: for every word and every number of times, a slot that is handed back, again and again (up to 20 times), is of a greater generation each time, and Free, till it is of the last one, and gone for good; and the chapter's examples come out. Conditions: the listed tables of the library and of package state hold what the program's own text lays in them (tied by the card). -/
import Derived.Test.YtneceonmdkhbfaaDoorStateAwake
import Derived.Test.YtneceonmdkhbfaaDoorCards
import Derived.LoopTactic
namespace Go.Proofs.YtneceonmdkhbfaaDoor.StateOnce
open Go.ChangeShapes Go.WideShapes Go.ChangeAt Go.RowKit FM SM Str Fmt StateText
open Go.Proofs.YtneceonmdkhbfaaDoor.Law04 (wf_u64 wf_i64 Held)
set_option linter.unusedVariables false

theorem held {W : World} (h : laidMetH Tryd.prog Rows.stateOnceRow.laid W) : Held W :=
  Law04.held_of h (by kernel_rfl) (List.mem_of_getElem? (i := 3) rfl) (List.mem_of_getElem? (i := 2) rfl)

set_option maxHeartbeats 1000000 in
theorem walk (v n : Int) (wv : (Lit.int .u64 v).wf = true) (wn : (Lit.int .i64 n).wf = true) (w : World) (hL : Held w) :
    Calls Tryd.prog 5 #[.int .u64 v, .int .i64 n] w fun e w' => e = .returned (.bool true) ∧ Below w.heap.size w w' := by
  have V := Lib.hid (wf_u64 wv)
  have HL := Lib.hid hL
  clear wv wn hL
  go_enter Tryd.func5, Tryd.ntmps5
  go_wp2
  go_loop [0, 5] (fun x i => ∃ (u : Int) (k : Nat), Hid (0 ≤ u ∧ u < 18446744073709551616) ∧ k ≤ 20 ∧ x = .int .u64 u ∧ i = .int .i64 k) (fun _ i => (20 - intOf i).toNat)
  case atStart => exact ⟨v, 0, V, by omega, rfl, rfl⟩
  case round =>
    obtain ⟨u, k, hu, hk, rfl, rfl⟩ := hrel
    obtain ⟨u0, u1⟩ := hu.out
    have U1 := Lib.hid u1
    by_cases h1 : (k : Int) < n
    · by_cases h2 : k < 20
      · have h3 : (k : Int) < 20 := by omega
        have hr : IntKind.i64.wrap ((k : Int) + 1) = (k : Int) + 1 := IntWalk.i64_in _ (by omega)
        have N0 := nextI_lo u
        have N1 := Lib.hid (nextI_hi u)
        by_cases h : u / 4294967296 = 4294967295
        · have h' : (u / 4294967296 == 4294967295) = true := by simpa using h
          have EN := Lib.hid (next_last h)
          have EI := Lib.hid (show isI (stI 4294967295 4) 4294967295 4 = true by decide)
          have EX := Lib.hid (show nextI (stI 4294967295 4) = stI 4294967295 4 by decide)
          have S0 := stI_lo 4294967295 4
          have S1 := Lib.hid (stI_hi 4294967295 4)
          clear h u1 hk hr
          go_wp2_with fail
          refine (State.Next_any u u0 U1.out _).mono ?_
          rintro e w' ⟨rfl, rfl⟩
          rw [EN.out]
          go_wp2_with fail
          refine (State.Gen_any u u0 U1.out _).mono ?_
          rintro e w' ⟨rfl, rfl⟩
          go_wp2_with fail
          refine (State.Is_any (stI 4294967295 4) 4294967295 4 (by decide) _).mono ?_
          rintro e w' ⟨rfl, rfl⟩
          rw [EI.out]
          go_wp2_with fail
          refine (State.Next_any (stI 4294967295 4) S0 S1.out _).mono ?_
          rintro e w' ⟨rfl, rfl⟩
          rw [EX.out]
          go_wp2_with fail
          refine (Law04.awake_any _ HL.out).mono ?_
          rintro e w' ⟨rfl, hb⟩
          go_wp2
          go_ret
          exact ⟨rfl, hb⟩
        · have h' : (u / 4294967296 == 4294967295) = false := by simpa using h
          have EG := Lib.hid (next_gen u0 u1 h)
          have ES := Lib.hid (next_status h)
          have hb0 : 0 ≤ u / 4294967296 := by omega
          have hb1 : u / 4294967296 ≤ 4294967294 := by omega
          clear h u1 hr
          go_wp2_with fail
          refine (State.Next_any u u0 U1.out _).mono ?_
          rintro e w' ⟨rfl, rfl⟩
          go_wp2_with fail
          refine (State.Gen_any u u0 U1.out _).mono ?_
          rintro e w' ⟨rfl, rfl⟩
          go_wp2_with fail
          refine (State.Gen_any (nextI u) N0 N1.out _).mono ?_
          rintro e w' ⟨rfl, rfl⟩
          rw [EG.out]
          go_wp2_with fail
          refine (State.Gen_any u u0 U1.out _).mono ?_
          rintro e w' ⟨rfl, rfl⟩
          go_wp2_with fail
          refine (State.Status_any (nextI u) N0 N1.out _).mono ?_
          rintro e w' ⟨rfl, rfl⟩
          rw [ES.out]
          go_wp2
          go_round
          case rel => exact ⟨nextI u, k + 1, Lib.hid ⟨N0, N1.out⟩, by omega, rfl, by go_num⟩
          case measure => simp [intOf]; omega
      · have h3 : ¬ (k : Int) < 20 := by omega
        clear u1
        go_wp2_with fail
        refine (Law04.awake_any _ HL.out).mono ?_
        rintro e w' ⟨rfl, hb⟩
        go_wp2
        go_ret
        exact ⟨rfl, hb⟩
    · clear u1
      go_wp2_with fail
      refine (Law04.awake_any _ HL.out).mono ?_
      rintro e w' ⟨rfl, hb⟩
      go_wp2
      go_ret
      exact ⟨rfl, hb⟩

theorem laidOut : laidOutB Tryd.prog = true := by kernel_rfl
theorem own : ownKnob Tryd.prog.godebug = none := by kernel_rfl
theorem door_met (os : Os) (args : Array Value) : laidMetH Tryd.prog Rows.stateOnceRow.laid ((World.doorLaid Tryd.prog 400 os).forCall (fun _ _ => 0) ⟨#[], args, []⟩).memory :=
  laidMetH_of_parts3 (fuel := 8) (laidMet_of_run' 8 (by kernel_rfl) (by kernel_rfl)) (by kernel_rfl) (by kernel_rfl)
set_option maxRecDepth 100000 in
theorem lifted (os : Os) (started : os.Started) (H : Type) (enc : TypeId × Value → H) :
    ReturnsInHanded {} Tryd.checked os 5 .any (fun w args => (Rows.stateOnceSpec.pre enc Tryd.prog Tryd.f5 [] false w args ∧ laidMetH Tryd.prog Rows.stateOnceRow.laid w) ∧ sizedMet enc Tryd.prog Tryd.f5 (OpenSpec.ofChange Rows.stateOnceSpec) false w args) (Rows.stateOnceSpec.post enc Tryd.prog Tryd.f5 false true false false) := by
  refine Frame.liftedLaid (C := Tryd.checked) (fn := Tryd.f5) (tb := 4) own started (by kernel_rfl) Tryd.func5
    (ChangeSpec.witness_shaped (enc := enc) (C := Tryd.checked) (os := os) (X := fun w _ => laidMetH Tryd.prog Rows.stateOnceRow.laid w) false (World.doorLaid Tryd.prog 400 os) #[.int .u64 0, .int .i64 0] 8 rfl (World.shaped_of_RefB (by kernel_rfl) (by kernel_rfl)) (by kernel_rfl) (by kernel_rfl) (by kernel_rfl) (door_met os _))
    rfl rfl Tryd.underlying4 laidOut (by kernel_rfl) (fun ds h => by match ds, h with | [_, _], _ => rfl) ?_
  intro W base args ds ps hval0 hA0 hlt hL
  have hval : ∀ (j : Nat) t v, Tryd.f5.params[j]? = some t → args[j]? = some v → Value.okWide Tryd.prog W .any base t v := hval0
  have hA : DataW.TrodAll enc Tryd.prog W 0 (fun _ => true) true Tryd.f5.params.toList args.toList ds ps := hA0
  rw [Tryd.params5] at hA hval
  obtain ⟨v0, vs0, d0, ds0, p0, q0, hargs, rfl, rfl, h0, r0⟩ := trodAll_cons hA
  obtain ⟨v1, vs1, d1, ds1, p1, q1, rfl, rfl, rfl, h1, r1⟩ := trodAll_cons r0
  obtain ⟨rfl, rfl, rfl⟩ := trodAll_nil r1
  obtain rfl : args = #[v0, v1] := by cases args; simp_all
  obtain ⟨a0, rfl, _, _, w0⟩ := open_int Tryd.underlying22 (hval 0 22 v0 rfl rfl) h0
  obtain ⟨a1, rfl, _, _, w1⟩ := open_int Tryd.underlying3 (hval 1 3 v1 rfl rfl) h1
  refine (walk a0 a1 w0 w1 W (held hL)).mono fun e W' h => ?_
  exact h

theorem over : Rows.stateOnceRow.holds Tryd.pinned (OpenSpec.ofChange Rows.stateOnceSpec) :=
  OpenClaim.holds_of_wide 5 Tryd.f5 rfl rfl rfl rfl rfl rfl rfl ⟨rfl, rfl, rfl, rfl, rfl⟩ rfl rfl rfl rfl rfl (by kernel_rfl) Tryd.func5 (by kernel_rfl)
    (of_decide_eq_true (by kernel_rfl)) (by unfold Func.isWrapper; first | (rw [if_pos (by decide +kernel)]; kernel_rfl) | (rw [if_neg (by decide +kernel)]; exact ⟨rfl, rfl⟩))
    (fun os started H enc _ => lifted os started H enc)

theorem proved : Rows.StateOnceCardSaid :=
  Claim7.holds_tied_plain_at .later [] Rows.stateOnceCard.laidKinds true Rows.stateOnceCard.stood.harness Rows.stateOnceCard.stood.looks
    over (fun _ h => by cases h) (by kernel_rfl) (fun _ h => by cases h) stateOnce_row_tie rfl ⟨rfl, rfl⟩ (by kernel_rfl) rfl
    (fun f fn hf hfn => by
      obtain rfl : f = 5 := Option.some.inj ((show Tryd.prog.funcNamed Rows.stateOnceRow.func = some 5 by kernel_rfl).symm.trans hf) |>.symm
      obtain rfl : fn = Tryd.f5 := (Option.some.inj (Tryd.func5.symm.trans hfn)).symm
      exact ⟨by kernel_rfl, fun j t ht => by
        rw [Tryd.params5] at ht
        have hm : t ∈ [22, 3] := by simpa using Array.mem_of_getElem? ht
        have hall : ([22, 3].all fun u => !Tryd.prog.wantsStandIn u) = true := by kernel_rfl
        exact (show Tryd.prog.wantsStandIn t = false by simpa using List.all_eq_true.1 hall t hm)⟩)
    (by kernel_rfl)
#print axioms proved
end Go.Proofs.YtneceonmdkhbfaaDoor.StateOnce
