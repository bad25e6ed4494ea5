/- HandleReads: of every text s of at most 10000 bytes, package handle and the document's answer for layer 30 read the same handle, or none, then with ErrText; and the chapter's examples come out. Conditions: the listed tables and errors of Go's library hold what the library's own text lays in them (tied by the card). -/
import Derived.Test.YtjbfhnkjcfpfpaaDoorHandleAwake
import Derived.Test.YtjbfhnkjcfpfpaaDoorCards
import Derived.ChangeMaps5
namespace Go.Proofs.YtjbfhnkjcfpfpaaDoor.HandleReads
set_option maxRecDepth 20000
open Go.ChangeShapes Go.WideShapes Go.ChangeAt Go.ChangeMaps Go.RowKit KM WaM Str HaM Lay
open Go.Proofs.YtjbfhnkjcfpfpaaDoor.Law30 (Held)
set_option linter.unusedVariables false

theorem held {W : World} (h : laidMetH Tryd.prog Rows.handleReadsRow.laid W) : Held W :=
  Law30.held_of h (by kernel_rfl) (List.mem_of_getElem? (i := 2) rfl) (List.mem_of_getElem? (i := 3) rfl) (List.mem_of_getElem? (i := 4) rfl)
theorem walk_of (s : List UInt8) (w : World) (hL : Held w) :
    Calls Tryd.prog 4 #[.string (bs s)] w fun e w' => e = .returned (.bool true) ∧ Below w.heap.size w w' := by
  obtain ⟨n, hn⟩ : ∃ n, s.length = n := ⟨_, rfl⟩
  have hsz : (bs s).size = n := by rw [bs_size, hn]
  have HL := Lib.hid hL
  by_cases hl : 10000 < n
  · have i1 : (10000 : Int) < (n : Int) := by omega
    clear hn hl hL
    go_enter Tryd.func4, Tryd.ntmps4
    go_wp2_with fail
    refine (Law30.awake_any _ HL.out).mono ?_
    rintro e w' ⟨rfl, hb⟩
    go_wp2
    go_ret
    exact ⟨rfl, hb⟩
  · have i1 : ¬ (10000 : Int) < (n : Int) := by omega
    have H1 := Lib.hid fun w hT hE => Handle.Parse_is (s := s) (by omega) w hT hE
    have H2 := Lib.hid fun w => Ref30.Parse_is (s := s) (by omega) w
    cases hp : parts s with
    | none =>
      rw [hp] at H1 H2
      unfold Handle.parseT at H1
      unfold Ref30.toldP at H2
      clear hn hl hL hp
      go_enter Tryd.func4, Tryd.ntmps4
      go_wp2_with fail
      refine (H1.out _ HL.out.1 HL.out.2).mono ?_
      rintro e w' ⟨rfl, hb⟩
      go_wp2_with fail
      refine (H2.out _).mono ?_
      rintro e w' ⟨rfl, rfl⟩
      go_wp2_with fail
      refine (Law30.awake_any _ (HL.out.later hb)).mono ?_
      rintro e w' ⟨rfl, hb2⟩
      go_wp2
      go_ret
      exact ⟨rfl, hb.trans (hb2.mono hb.size)⟩
    | some x =>
      obtain ⟨g, k⟩ := x
      rw [hp] at H1 H2
      unfold Handle.parseT at H1
      unfold Ref30.toldP at H2
      generalize (g : Int) * 4294967296 + (k : Int) = h at H1 H2
      clear hn hl hL hp
      go_enter Tryd.func4, Tryd.ntmps4
      go_wp2_with fail
      refine (H1.out _ HL.out.1 HL.out.2).mono ?_
      rintro e w' ⟨rfl, hb⟩
      go_wp2_with fail
      refine (H2.out _).mono ?_
      rintro e w' ⟨rfl, rfl⟩
      go_wp2_with fail
      refine (Law30.awake_any _ (HL.out.later hb)).mono ?_
      rintro e w' ⟨rfl, hb2⟩
      go_wp2
      go_ret
      exact ⟨rfl, hb.trans (hb2.mono hb.size)⟩
theorem walk (s : ByteArray) (w : World) (hL : Held w) :
    Calls Tryd.prog 4 #[.string s] w fun e w' => e = .returned (.bool true) ∧ Below w.heap.size w w' := by
  have := walk_of s.data.toList w hL
  rw [bs_of] at this
  exact this

theorem laidOut : laidOutB Tryd.prog = true := by kernel_rfl
theorem own : ownKnob Tryd.prog.godebug = none := by kernel_rfl
theorem door_met (os : Os) (args : Array Value) : laidMetH Tryd.prog Rows.handleReadsRow.laid ((World.doorLaid Tryd.prog 400 os).forCall (fun _ _ => 0) ⟨#[], args, []⟩).memory :=
  laidMetH_of_parts3 (fuel := 8) (laidMet_of_run' 8 (by kernel_rfl) (by kernel_rfl)) (by kernel_rfl) (by kernel_rfl)
set_option maxRecDepth 100000 in
theorem lifted (os : Os) (started : os.Started) (H : Type) (enc : TypeId × Value → H) :
    ReturnsInHanded {} Tryd.checked os 4 .any (fun w args => (Rows.handleReadsSpec.pre enc Tryd.prog Tryd.f4 [] false w args ∧ laidMetH Tryd.prog Rows.handleReadsRow.laid w) ∧ sizedMet enc Tryd.prog Tryd.f4 (OpenSpec.ofChange Rows.handleReadsSpec) false w args) (Rows.handleReadsSpec.post enc Tryd.prog Tryd.f4 false true false false) := by
  refine Frame.liftedLaid (C := Tryd.checked) (fn := Tryd.f4) (tb := 4) own started (by kernel_rfl) Tryd.func4
    (ChangeSpec.witness_shaped (enc := enc) (C := Tryd.checked) (os := os) (X := fun w _ => laidMetH Tryd.prog Rows.handleReadsRow.laid w) false (World.doorLaid Tryd.prog 400 os) #[.string ⟨#[]⟩] 8 rfl (World.shaped_of_RefB (by kernel_rfl) (by kernel_rfl)) (by kernel_rfl) (by kernel_rfl) (by kernel_rfl) (door_met os _))
    rfl rfl Tryd.underlying4 laidOut (by kernel_rfl) (fun ds h => by match ds, h with | [_], _ => rfl) ?_
  intro W base args ds ps hval0 hA0 hlt hL
  have hval : ∀ (j : Nat) t v, Tryd.f4.params[j]? = some t → args[j]? = some v → Value.okWide Tryd.prog W .any base t v := hval0
  have hA : DataW.TrodAll enc Tryd.prog W 0 (fun _ => true) true Tryd.f4.params.toList args.toList ds ps := hA0
  rw [Tryd.params4] at hA hval
  obtain ⟨v0, vs0, d0, ds0, p0, q0, hargs, rfl, rfl, h0, r0⟩ := trodAll_cons hA
  obtain ⟨rfl, rfl, rfl⟩ := trodAll_nil r0
  obtain rfl : args = #[v0] := by cases args; simp_all
  obtain ⟨s0, rfl, _, _, _⟩ := open_string Tryd.underlying9 (hval 0 9 v0 rfl rfl) h0
  refine (walk s0 W (held hL)).mono fun e W' h => ?_
  exact h

theorem over : Rows.handleReadsRow.holds Tryd.pinned (OpenSpec.ofChange Rows.handleReadsSpec) :=
  OpenClaim.holds_of_wide 4 Tryd.f4 rfl rfl rfl rfl rfl rfl rfl ⟨rfl, rfl, rfl, rfl, rfl⟩ rfl rfl rfl rfl rfl (by kernel_rfl) Tryd.func4 (by kernel_rfl)
    (of_decide_eq_true (by kernel_rfl)) (by unfold Func.isWrapper; first | (rw [if_pos (by decide +kernel)]; kernel_rfl) | (rw [if_neg (by decide +kernel)]; exact ⟨rfl, rfl⟩))
    (fun os started H enc _ => lifted os started H enc)

theorem proved : Rows.HandleReadsCardSaid :=
  Claim7.holds_tied_plain_at .later [] Rows.handleReadsCard.laidKinds true Rows.handleReadsCard.stood.harness Rows.handleReadsCard.stood.looks
    over (fun _ h => by cases h) (by kernel_rfl) (fun _ h => by cases h) handleReads_row_tie rfl ⟨rfl, rfl⟩ (by kernel_rfl) rfl
    (fun f fn hf hfn => by
      obtain rfl : f = 4 := Option.some.inj ((show Tryd.prog.funcNamed Rows.handleReadsRow.func = some 4 by kernel_rfl).symm.trans hf) |>.symm
      obtain rfl : fn = Tryd.f4 := (Option.some.inj (Tryd.func4.symm.trans hfn)).symm
      exact ⟨by kernel_rfl, fun j t ht => by
        rw [Tryd.params4] at ht
        have hm : t ∈ [9] := by simpa using Array.mem_of_getElem? ht
        have hall : ([9].all fun u => !Tryd.prog.wantsStandIn u) = true := by kernel_rfl
        exact (show Tryd.prog.wantsStandIn t = false by simpa using List.all_eq_true.1 hall t hm)⟩)
    (by kernel_rfl)
#print axioms proved
end Go.Proofs.YtjbfhnkjcfpfpaaDoor.HandleReads
