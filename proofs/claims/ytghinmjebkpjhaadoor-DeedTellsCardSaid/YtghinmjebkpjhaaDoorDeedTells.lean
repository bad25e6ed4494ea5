/- DeedTells: for every word w and every deed d, what w becomes by d, whether that is another word, and the deed's text, are what the document's answer for layer 7 tells, and the chapter's examples come out. Conditions: the library's listed tables hold what its own text lays in them (tied by the card). -/
import Derived.Test.YtghinmjebkpjhaaDoorDeedAwake
import Derived.Test.YtghinmjebkpjhaaDoorDeedRef
import Derived.Test.YtghinmjebkpjhaaDoorFive
import Derived.Test.YtghinmjebkpjhaaDoorFrame
import Derived.Test.YtghinmjebkpjhaaDoorCards
namespace Go.Proofs.YtghinmjebkpjhaaDoor.DeedTells
open Go.ChangeShapes Go.WideShapes Go.ChangeAt Go.RowKit CM DM Lay Ints Cells Str Fmt
open Go.Proofs.YtghinmjebkpjhaaDoor.Law07 (fits_of)
set_option linter.unusedVariables false

theorem held {W : World} (h : laidMetH Tryd.prog Rows.deedTellsRow.laid W) : Tens W :=
  Law07.held_of h (by kernel_rfl) (List.mem_of_getElem? (i := 2) rfl)

theorem text_is {x : D} {l : List UInt8} (hF : Fits x) (h : textI x = l) (w : World) (hT : Tens w) : Calls Tryd.prog 15 #[.agg #[.int .i64 x.1, .int .i64 x.2.1, .int .u64 x.2.2.1, .int .u64 x.2.2.2.1, .int .u64 x.2.2.2.2]] w fun e w' => e = .returned (.string (bs l)) ∧ Below w.heap.size w w' := by
  rw [← h]
  exact DeedText.Text_any x hF w hT
theorem ref_text_is {x : D} {l : List UInt8} (hF : Fits x) (h : textI x = l) (w : World) : Calls Tryd.prog 16 #[.agg #[.int .i64 x.1, .int .i64 x.2.1, .int .u64 x.2.2.1, .int .u64 x.2.2.2.1, .int .u64 x.2.2.2.2]] w fun e w' => e = .returned (.string (bs l)) ∧ Below w.heap.size w w' := by
  rw [← h]
  exact DeedRef.Text_any x hF w

set_option maxHeartbeats 1000000 in
theorem walk (v : Int) (x : D) (wv : (Lit.int .u64 v).wf = true) (w0 : (Lit.int .i64 x.1).wf = true) (w1 : (Lit.int .i64 x.2.1).wf = true) (w2 : (Lit.int .u64 x.2.2.1).wf = true) (w3 : (Lit.int .u64 x.2.2.2.1).wf = true) (w4 : (Lit.int .u64 x.2.2.2.2).wf = true) (w : World) (hL : Tens w) :
    Calls Tryd.prog 4 #[.int .u64 v, .agg #[.int .i64 x.1, .int .i64 x.2.1, .int .u64 x.2.2.1, .int .u64 x.2.2.2.1, .int .u64 x.2.2.2.2]] w fun e w' => e = .returned (.bool true) ∧ Below w.heap.size w w' := by
  have HF := Lib.hid (fits_of w1 w2 w3 w4)
  obtain ⟨u, hu⟩ : ∃ u, afterI v x = u := ⟨_, rfl⟩
  obtain ⟨l, hl⟩ : ∃ l, textI x = l := ⟨_, rfl⟩
  obtain ⟨c_0, c_1, c_2, c_3, c_4⟩ := Deed.box5 w (.int .i64 x.1) (.int .i64 x.2.1) (.int .u64 x.2.2.1) (.int .u64 x.2.2.2.1) (.int .u64 x.2.2.2.2) 33
  have C_0 := fun p : After (w.alloc (.cells #[.int .i64 x.1, .int .i64 x.2.1, .int .u64 x.2.2.1, .int .u64 x.2.2.2.1, .int .u64 x.2.2.2.2] 33)) => p.cell c_0
  have C_1 := fun p : After (w.alloc (.cells #[.int .i64 x.1, .int .i64 x.2.1, .int .u64 x.2.2.1, .int .u64 x.2.2.2.1, .int .u64 x.2.2.2.2] 33)) => p.cell c_1
  have C_2 := fun p : After (w.alloc (.cells #[.int .i64 x.1, .int .i64 x.2.1, .int .u64 x.2.2.1, .int .u64 x.2.2.2.1, .int .u64 x.2.2.2.2] 33)) => p.cell c_2
  have C_3 := fun p : After (w.alloc (.cells #[.int .i64 x.1, .int .i64 x.2.1, .int .u64 x.2.2.1, .int .u64 x.2.2.2.1, .int .u64 x.2.2.2.2] 33)) => p.cell c_3
  have C_4 := fun p : After (w.alloc (.cells #[.int .i64 x.1, .int .i64 x.2.1, .int .u64 x.2.2.1, .int .u64 x.2.2.2.1, .int .u64 x.2.2.2.2] 33)) => p.cell c_4
  clear c_0 c_1 c_2 c_3 c_4
  have HT := Lib.hid (DeedText.tens_later hL ((Below.refl _ _).alloc (Nat.le_refl _) (.cells #[.int .i64 x.1, .int .i64 x.2.1, .int .u64 x.2.2.1, .int .u64 x.2.2.2.1, .int .u64 x.2.2.2.2] 33)))
  have H1 := Lib.hid (DeedDo.After_is hu)
  have H2 := Lib.hid (DeedRef.After_is hu)
  have H4 := Lib.hid fun w => text_is HF.out hl w
  have H5 := Lib.hid fun w => ref_text_is HF.out hl w
  have HE := Lib.hid (bs_same l)
  by_cases hc : u = v
  · rw [hc] at hu
    have H3 := Lib.hid (DeedDo.Changes_no hu)
    subst hc
    clear hu hl hL wv w0 w1 w2 w3 w4
    go_enter Tryd.func4, Tryd.ntmps4
    go_wp2
    refine wp_region_after mixed (by kernel_rfl) ?_
    repeat (first | go_big_quiet_step ((first | (with_reducible exact calls_after (H1.out _)) | (with_reducible exact calls_after (H2.out _)) | (with_reducible exact calls_after (H3.out _)) | (with_reducible exact calls_after (H4.out _ (DeedText.tens_later HT.out (After.ok _)))) | (with_reducible exact calls_after (H5.out _)) | exact calls_after (Law07.awake_any _ (DeedText.tens_later HT.out (After.ok _))))) | quiet_step ((first | (with_reducible exact calls_after (H1.out _)) | (with_reducible exact calls_after (H2.out _)) | (with_reducible exact calls_after (H3.out _)) | (with_reducible exact calls_after (H4.out _ (DeedText.tens_later HT.out (After.ok _)))) | (with_reducible exact calls_after (H5.out _)) | exact calls_after (Law07.awake_any _ (DeedText.tens_later HT.out (After.ok _))))))
    refine wpQuiet_nil ?_
    intro _ hw'
    obtain ⟨pq, hw''⟩ := hw'
    subst hw''
    go_wp2
    go_ret
    exact ⟨rfl, below_past (pq.ok.mono (by simp))⟩
  · have hc2 : (u != v) = true := by simpa using hc
    have H3 := Lib.hid (DeedDo.Changes_yes hu hc2)
    clear hc hu hl hL wv w0 w1 w2 w3 w4
    go_enter Tryd.func4, Tryd.ntmps4
    go_wp2
    refine wp_region_after mixed (by kernel_rfl) ?_
    repeat (first | go_big_quiet_step ((first | (with_reducible exact calls_after (H1.out _)) | (with_reducible exact calls_after (H2.out _)) | (with_reducible exact calls_after (H3.out _)) | (with_reducible exact calls_after (H4.out _ (DeedText.tens_later HT.out (After.ok _)))) | (with_reducible exact calls_after (H5.out _)) | exact calls_after (Law07.awake_any _ (DeedText.tens_later HT.out (After.ok _))))) | quiet_step ((first | (with_reducible exact calls_after (H1.out _)) | (with_reducible exact calls_after (H2.out _)) | (with_reducible exact calls_after (H3.out _)) | (with_reducible exact calls_after (H4.out _ (DeedText.tens_later HT.out (After.ok _)))) | (with_reducible exact calls_after (H5.out _)) | exact calls_after (Law07.awake_any _ (DeedText.tens_later HT.out (After.ok _))))))
    refine wpQuiet_nil ?_
    intro _ hw'
    obtain ⟨pq, hw''⟩ := hw'
    subst hw''
    go_wp2
    go_ret
    exact ⟨rfl, below_past (pq.ok.mono (by simp))⟩

theorem laidOut : laidOutB Tryd.prog = true := by kernel_rfl
theorem own : ownKnob Tryd.prog.godebug = none := by kernel_rfl
theorem door_met (os : Os) (args : Array Value) : laidMetH Tryd.prog Rows.deedTellsRow.laid ((World.doorLaid Tryd.prog 400 os).forCall (fun _ _ => 0) ⟨#[], args, []⟩).memory :=
  laidMetH_of_parts3 (fuel := 8) (laidMet_of_run' 8 (by kernel_rfl) (by kernel_rfl)) (by kernel_rfl) (by kernel_rfl)
set_option maxRecDepth 100000 in
theorem lifted (os : Os) (started : os.Started) (H : Type) (enc : TypeId × Value → H) :
    ReturnsInHanded {} Tryd.checked os 4 .any (fun w args => (Rows.deedTellsSpec.pre enc Tryd.prog Tryd.f4 [] false w args ∧ laidMetH Tryd.prog Rows.deedTellsRow.laid w) ∧ sizedMet enc Tryd.prog Tryd.f4 (OpenSpec.ofChange Rows.deedTellsSpec) false w args) (Rows.deedTellsSpec.post enc Tryd.prog Tryd.f4 false true false false) := by
  refine Frame.liftedLaid (C := Tryd.checked) (fn := Tryd.f4) (tb := 4) own started (by kernel_rfl) Tryd.func4
    (ChangeSpec.witness_shaped (enc := enc) (C := Tryd.checked) (os := os) (X := fun w _ => laidMetH Tryd.prog Rows.deedTellsRow.laid w) false (World.doorLaid Tryd.prog 400 os) #[.int .u64 0, .agg #[.int .i64 0, .int .i64 0, .int .u64 0, .int .u64 0, .int .u64 0]] 8 rfl (World.shaped_of_RefB (by kernel_rfl) (by kernel_rfl)) (by kernel_rfl) (by kernel_rfl) (by kernel_rfl) (door_met os _))
    rfl rfl Tryd.underlying4 laidOut (by kernel_rfl) (fun ds h => by match ds, h with | [_, _], _ => rfl) ?_
  intro W base args ds ps hval0 hA0 hlt hL
  have hval : ∀ (j : Nat) t v, Tryd.f4.params[j]? = some t → args[j]? = some v → Value.okWide Tryd.prog W .any base t v := hval0
  have hA : DataW.TrodAll enc Tryd.prog W 0 (fun _ => true) true Tryd.f4.params.toList args.toList ds ps := hA0
  rw [Tryd.params4] at hA hval
  obtain ⟨v0, vs0, d0, ds0, p0, q0, hargs, rfl, rfl, h0, r0⟩ := trodAll_cons hA
  obtain ⟨v1, vs1, d1, ds1, p1, q1, rfl, rfl, rfl, h1, r1⟩ := trodAll_cons r0
  obtain ⟨rfl, rfl, rfl⟩ := trodAll_nil r1
  obtain rfl : args = #[v0, v1] := by cases args; simp_all
  obtain ⟨a0, rfl, _, _, w0⟩ := open_int Tryd.underlying29 (hval 0 29 v0 rfl rfl) h0
  obtain ⟨x1, rfl, w1_0, w1_1, w1_2, w1_3, w1_4⟩ := Open.open_five_ints Tryd.underlying33 (by kernel_rfl) (by kernel_rfl) Tryd.underlying3 Tryd.underlying3 Tryd.underlying29 Tryd.underlying29 Tryd.underlying29 (hval 1 33 v1 rfl rfl) h1
  refine (walk a0 x1 w0 w1_0 w1_1 w1_2 w1_3 w1_4 W (held hL)).mono fun e W' h => ?_
  exact h

theorem over : Rows.deedTellsRow.holds Tryd.pinned (OpenSpec.ofChange Rows.deedTellsSpec) :=
  OpenClaim.holds_of_wide 4 Tryd.f4 rfl rfl rfl rfl rfl rfl rfl ⟨rfl, rfl, rfl, rfl, rfl⟩ rfl rfl rfl rfl rfl (by kernel_rfl) Tryd.func4 (by kernel_rfl)
    (of_decide_eq_true (by kernel_rfl)) (by unfold Func.isWrapper; first | (rw [if_pos (by decide +kernel)]; kernel_rfl) | (rw [if_neg (by decide +kernel)]; exact ⟨rfl, rfl⟩))
    (fun os started H enc _ => lifted os started H enc)

theorem proved : Rows.DeedTellsCardSaid :=
  Claim7.holds_tied_plain_at .later [] Rows.deedTellsCard.laidKinds true Rows.deedTellsCard.stood.harness Rows.deedTellsCard.stood.looks
    over (fun _ h => by cases h) (by kernel_rfl) (fun _ h => by cases h) deedTells_row_tie rfl ⟨rfl, rfl⟩ (by kernel_rfl) rfl
    (fun f fn hf hfn => by
      obtain rfl : f = 4 := Option.some.inj ((show Tryd.prog.funcNamed Rows.deedTellsRow.func = some 4 by kernel_rfl).symm.trans hf) |>.symm
      obtain rfl : fn = Tryd.f4 := (Option.some.inj (Tryd.func4.symm.trans hfn)).symm
      exact ⟨by kernel_rfl, fun j t ht => by
        rw [Tryd.params4] at ht
        have hm : t ∈ [29, 33] := by simpa using Array.mem_of_getElem? ht
        have hall : ([29, 33].all fun u => !Tryd.prog.wantsStandIn u) = true := by kernel_rfl
        exact (show Tryd.prog.wantsStandIn t = false by simpa using List.all_eq_true.1 hall t hm)⟩)
    (by kernel_rfl)
#print axioms proved
end Go.Proofs.YtghinmjebkpjhaaDoor.DeedTells
