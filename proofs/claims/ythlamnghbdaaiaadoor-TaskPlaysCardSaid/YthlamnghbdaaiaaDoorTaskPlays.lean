/- TaskPlays: for every list of words and every list of deeds, what is found by a script of the deeds that is played, at most so many, and which words there are then, is what the document's answer for layer 11 tells; and the chapter's example comes out (of more than 200 words, or of more than 100 deeds, just that is asked); the arguments read as they did. Conditions: the library's listed tables hold what its own text lays in them (tied by the card). -/
import Derived.Test.YthlamnghbdaaiaaDoorTaskAwake
import Derived.Test.YthlamnghbdaaiaaDoorTaskPlay
import Derived.Test.YthlamnghbdaaiaaDoorTaskRefPlay
import Derived.Test.YthlamnghbdaaiaaDoorFrame
import Derived.Test.YthlamnghbdaaiaaDoorFrameLaid
import Derived.Test.YthlamnghbdaaiaaDoorTie
import Derived.Test.YthlamnghbdaaiaaDoorCards
namespace Go.Proofs.YthlamnghbdaaiaaDoor.TaskPlays
open Go.ChangeShapes Go.WideShapes Go.ChangeAt Go.RowKit CM DM TR Lay Ints Cells Go.Proofs.YthlamnghbdaaiaaDoor.Task
set_option linter.unusedVariables false

theorem held {W : World} (h : laidMetH Tryd.prog Rows.taskPlaysRow.laid W) : True := trivial

set_option maxHeartbeats 1000000 in
theorem walk (A : Option Addr) (l : List Int) (c : Nat) (B : Option Addr) (ds : List D) (d : Nat) (most : Int) (_ : (Lit.int .i64 most).wf = true) (w : World)
    (hR : Row w w.heap.size A (flat (encZ .u64) l)) (hl : l.length ≤ maxLen) (_ : ∀ x ∈ l, (Lit.int .u64 x).wf = true)
    (hS : Row w w.heap.size B (flat encD ds)) (hs : ds.length ≤ maxLen) (_ : ∀ x ∈ ds, (Lit.int .i64 x.1).wf = true ∧ (Lit.int .i64 x.2.1).wf = true ∧ (Lit.int .u64 x.2.2.1).wf = true ∧ (Lit.int .u64 x.2.2.2.1).wf = true ∧ (Lit.int .u64 x.2.2.2.2).wf = true) (_ : True) :
    Calls Tryd.prog 3 #[.slice A l.length c, .slice B ds.length d, .int .i64 most] w fun e w' => e = .returned (.bool true) ∧ Below w.heap.size w w' := by
  obtain ⟨n, hn⟩ : ∃ n, n = l.length := ⟨_, rfl⟩
  obtain ⟨m, hm⟩ : ∃ m, m = ds.length := ⟨_, rfl⟩
  unfold maxLen at hl hs
  rw [← hn] at hl ⊢
  rw [← hm] at hs ⊢
  have HN := Lib.hid hn
  have HM := Lib.hid hm
  have HR := Lib.hid hR
  have HS := Lib.hid hS
  clear hn hm hR hS
  by_cases hbig : 200 < n
  · go_enter Tryd.func3, Tryd.ntmps3
    go_wp2_with fail
    refine (Law11.awake_any _).mono ?_
    rintro e w' ⟨rfl, hb⟩
    go_wp2
    go_ret
    exact ⟨rfl, hb⟩
  by_cases hmany : 100 < m
  · go_enter Tryd.func3, Tryd.ntmps3
    go_wp2_with fail
    refine (Law11.awake_any _).mono ?_
    rintro e w' ⟨rfl, hb⟩
    go_wp2
    go_ret
    exact ⟨rfl, hb⟩
  obtain ⟨k, hk⟩ : ∃ k, k = kOf most m := ⟨_, rfl⟩
  have HK := Lib.hid hk
  obtain ⟨fs, hfs⟩ : ∃ fs, fs = runF l (ds.take k) := ⟨_, rfl⟩
  obtain ⟨ws, hws⟩ : ∃ ws, ws = runW l (ds.take k) := ⟨_, rfl⟩
  have hkm : k ≤ m := by unfold kOf at hk; omega
  have HFL := Lib.hid (show k = fs.length by rw [hfs, runF_length, List.length_take]; have := HM.out; omega)
  have HWL := Lib.hid (show n = ws.length by rw [hws, runW_length]; exact HN.out)
  have HF := Lib.hid hfs
  have HW := Lib.hid hws
  clear hk hfs hws
  go_enter Tryd.func3, Tryd.ntmps3
  go_wp2_with fail
  refine (Of_any HR.out HN.out (by omega)).mono ?_
  rintro e w1 ⟨pc, h, rfl, hm1, hp1, hh1, hb1⟩
  have HM1 := Lib.hid hm1
  have HB1 := Lib.hid hb1
  have HP1 := Lib.hid (And.intro hp1 hh1)
  clear hm1 hp1 hh1 hb1
  go_wp2_with fail
  refine (NewScript_any (HS.out.later HB1.out) HM.out (by omega)).mono ?_
  rintro e w2 ⟨p, q, rfl, hs2, hp2, hq2, hb2⟩
  have HS2 := Lib.hid hs2
  have HM2 := Lib.hid (HM1.out.later hb2)
  have HP2 := Lib.hid (And.intro hp2 hq2)
  have HB2 := Lib.hid (HB1.out.trans (hb2.mono HB1.out.size))
  have HAP := Lib.hid (show (pc ≠ p ∧ pc ≠ q) ∧ h ≠ p ∧ h ≠ q by have := HM1.out.lt; omega)
  clear hs2 hp2 hq2 hb2
  go_wp2_with fail
  refine (Play_any most HS2.out HM2.out HAP.out (by rw [← HM.out]; omega)).mono ?_
  rintro e w3 ⟨F, fc, he, hr3, hm3, ho3⟩
  rw [← HM.out, ← HK.out] at he hr3 hm3
  rw [← HF.out] at hr3
  rw [← HW.out] at hm3
  subst he
  have HR3 := Lib.hid hr3
  have HM3 := Lib.hid hm3
  have HB3 := Lib.hid (HB2.out.trans (ho3.below HB2.out.size (fun i e => by have h1 := HP1.out; have h2 := HP2.out; have h3 := HB1.out.size; omega)))
  clear hr3 hm3 ho3
  go_wp2_with fail
  refine (TaskRef.Play_any A B l ds n m c d most _ (HR.out.later HB3.out) HN.out (by omega) (HS.out.later HB3.out) HM.out (by omega)).mono ?_
  rintro e w4 ⟨F2, fc2, A2, c2, he, hr4, hr5, hb4⟩
  rw [← HK.out] at he hr4 hr5
  rw [← HF.out] at hr4
  rw [← HW.out] at hr5
  subst he
  have HR4 := Lib.hid hr4
  have HR5 := Lib.hid hr5
  have HM4 := Lib.hid (HM3.out.later hb4)
  have HR3' := Lib.hid (HR3.out.later hb4)
  have HB4 := Lib.hid (HB3.out.trans (hb4.mono HB3.out.size))
  clear hr4 hr5 hb4
  go_wp2_with fail
  refine (CellsRef.Same_yes (l := fs) HFL.out HFL.out HR3'.out HR4.out (by rw [← HFL.out]; simp only [maxLen]; omega)).mono ?_
  rintro e w5 ⟨rfl, hb5⟩
  have HM5 := Lib.hid (HM4.out.later hb5)
  have HR5' := Lib.hid (HR5.out.later hb5)
  have HB5 := Lib.hid (HB4.out.trans (hb5.mono HB4.out.size))
  clear hb5
  go_wp2_with fail
  refine (Words_any HM5.out).mono ?_
  rintro e w6 ⟨rfl, ho6, hb6⟩
  have HO6 := Lib.hid (Row.of_own ho6)
  have HR6 := Lib.hid (HR5'.out.later hb6)
  have HB6 := Lib.hid (HB5.out.trans (hb6.mono HB5.out.size))
  clear ho6 hb6
  go_wp2_with fail
  refine (CellsRef.Same_yes (l := ws) HWL.out HWL.out HO6.out HR6.out (by rw [← HWL.out]; simp only [maxLen]; omega)).mono ?_
  rintro e w7 ⟨rfl, hb7⟩
  have HB7 := Lib.hid (HB6.out.trans (hb7.mono HB6.out.size))
  clear hb7
  go_wp2_with fail
  refine (Law11.awake_any _).mono ?_
  rintro e w8 ⟨rfl, hb8⟩
  go_wp2
  go_ret
  exact ⟨rfl, HB7.out.trans (hb8.mono HB7.out.size)⟩
theorem laidOut : laidOutB Tryd.prog = true := by kernel_rfl
theorem own : ownKnob Tryd.prog.godebug = none := by kernel_rfl
theorem door_met (os : Os) (args : Array Value) : laidMetH Tryd.prog Rows.taskPlaysRow.laid ((World.doorLaid Tryd.prog 400 os).forCall (fun _ _ => 0) ⟨#[], args, []⟩).memory :=
  laidMetH_of_parts3 (fuel := 8) (laidMet_of_run' 8 (by kernel_rfl) (by kernel_rfl)) (by kernel_rfl) (by kernel_rfl)
set_option maxRecDepth 100000 in
theorem lifted (os : Os) (started : os.Started) (H : Type) (enc : TypeId × Value → H) :
    ReturnsInHanded {} Tryd.checked os 3 .any (fun w args => (Rows.taskPlaysSpec.pre enc Tryd.prog Tryd.f3 [] false w args ∧ laidMetH Tryd.prog Rows.taskPlaysRow.laid w) ∧ sizedMet enc Tryd.prog Tryd.f3 (OpenSpec.ofChange Rows.taskPlaysSpec) false w args) (Rows.taskPlaysSpec.post enc Tryd.prog Tryd.f3 false true false false) := by
  refine Frame.liftedLaid (C := Tryd.checked) (fn := Tryd.f3) (tb := 4) own started (by kernel_rfl) Tryd.func3
    (ChangeSpec.witness_shaped (enc := enc) (C := Tryd.checked) (os := os) (X := fun w _ => laidMetH Tryd.prog Rows.taskPlaysRow.laid w) false (World.doorLaid Tryd.prog 400 os) #[.slice none 0 0, .slice none 0 0, .int .i64 0] 8 rfl (World.shaped_of_RefB (by kernel_rfl) (by kernel_rfl)) (by kernel_rfl) (by kernel_rfl) (by kernel_rfl) (door_met os _))
    rfl rfl Tryd.underlying4 laidOut (by kernel_rfl) (fun ds h => by match ds, h with | [_, _, _], _ => rfl) ?_
  intro W base args ds ps hval0 hA0 hlt hL
  have hval : ∀ (j : Nat) t v, Tryd.f3.params[j]? = some t → args[j]? = some v → Value.okWide Tryd.prog W .any base t v := hval0
  have hA : DataW.TrodAll enc Tryd.prog W 0 (fun _ => true) true Tryd.f3.params.toList args.toList ds ps := hA0
  rw [Tryd.params3] at hA hval
  obtain ⟨v0, vs0, d0, ds0, p0, q0, hargs, rfl, rfl, h0, r0⟩ := trodAll_cons hA
  obtain ⟨v1, vs1, d1, ds1, p1, q1, rfl, rfl, rfl, h1, r1⟩ := trodAll_cons r0
  obtain ⟨v2, vs2, d2, ds2, p2, q2, rfl, rfl, rfl, h2, r2⟩ := trodAll_cons r1
  obtain ⟨rfl, rfl, rfl⟩ := trodAll_nil r2
  obtain rfl : args = #[v0, v1, v2] := by cases args; simp_all
  obtain ⟨A0, x0, c0, rfl, b0, m0, R0, g0⟩ := Open.open_rows (k := 1) (Ints.encZ .u64) (fun x => (Lit.int .u64 x).wf = true) Tryd.underlying22 (by kernel_rfl) (by decide) (Ints.encZ_length _) (fun n cs y h hl => Ints.one_int Tryd.underlying40 n cs y h hl) (hval 0 22 v0 rfl rfl) h0
  obtain ⟨A1, x1, c1, rfl, b1, m1, R1, g1⟩ := Open.open_rows (k := 5) (Open.enc5 .i64 .i64 .u64 .u64 .u64) (fun x => (Lit.int .i64 x.1).wf = true ∧ (Lit.int .i64 x.2.1).wf = true ∧ (Lit.int .u64 x.2.2.1).wf = true ∧ (Lit.int .u64 x.2.2.2.1).wf = true ∧ (Lit.int .u64 x.2.2.2.2).wf = true) Tryd.underlying23 (by kernel_rfl) (by decide) (Open.enc5_length .i64 .i64 .u64 .u64 .u64) (fun n cs y h hl => Open.five_ints Tryd.underlying42 (by kernel_rfl) Tryd.underlying3 Tryd.underlying3 Tryd.underlying40 Tryd.underlying40 Tryd.underlying40 n cs y h hl) (hval 1 23 v1 rfl rfl) h1
  obtain ⟨a2, rfl, _, _, w2⟩ := open_int Tryd.underlying3 (hval 2 3 v2 rfl rfl) h2
  refine (walk A0 x0 c0 A1 x1 c1 a2 w2 W R0 (Nat.le_trans b0 m0) g0 R1 (Nat.le_trans b1 m1) g1 (held hL)).mono fun e W' h => ?_
  exact h

theorem over : Rows.taskPlaysRow.holds Tryd.pinned (OpenSpec.ofChange Rows.taskPlaysSpec) :=
  OpenClaim.holds_of_wide 3 Tryd.f3 rfl rfl rfl rfl rfl rfl rfl ⟨rfl, rfl, rfl, rfl, rfl⟩ rfl rfl rfl rfl rfl (by kernel_rfl) Tryd.func3 (by kernel_rfl)
    (of_decide_eq_true (by kernel_rfl)) (by unfold Func.isWrapper; first | (rw [if_pos (by decide +kernel)]; kernel_rfl) | (rw [if_neg (by decide +kernel)]; exact ⟨rfl, rfl⟩))
    (fun os started H enc _ => lifted os started H enc)

theorem proved : Rows.TaskPlaysCardSaid :=
  Claim7.holds_tied_plain_at .later [] Rows.taskPlaysCard.laidKinds true Rows.taskPlaysCard.stood.harness Rows.taskPlaysCard.stood.looks
    over (fun _ h => by cases h) (by kernel_rfl) (fun _ h => by cases h) taskPlays_row_tie rfl ⟨rfl, rfl⟩ (by kernel_rfl) rfl
    (fun f fn hf hfn => by
      obtain rfl : f = 3 := Option.some.inj ((show Tryd.prog.funcNamed Rows.taskPlaysRow.func = some 3 by kernel_rfl).symm.trans hf) |>.symm
      obtain rfl : fn = Tryd.f3 := (Option.some.inj (Tryd.func3.symm.trans hfn)).symm
      exact ⟨by kernel_rfl, fun j t ht => by
        rw [Tryd.params3] at ht
        have hm : t ∈ [22, 23, 3] := by simpa using Array.mem_of_getElem? ht
        have hall : ([22, 23, 3].all fun u => !Tryd.prog.wantsStandIn u) = true := by kernel_rfl
        exact (show Tryd.prog.wantsStandIn t = false by simpa using List.all_eq_true.1 hall t hm)⟩)
    (by kernel_rfl)
#print axioms proved
end Go.Proofs.YthlamnghbdaaiaaDoor.TaskPlays
