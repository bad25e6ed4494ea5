/- HandleTells: for every plan p, every reference r and every word h, the handle of r, the reference of h in p, whether there is one, and the text of h are what the document's answer for layer 30 tells; and the chapter's examples come out. Conditions: the listed tables and errors of Go's library hold what the library's own text lays in them (tied by the card). -/
import Derived.Test.YtjbfhnkjcfpfpaaDoorHandleAwake
import Derived.Test.YtjbfhnkjcfpfpaaDoorFour
import Derived.Test.YtjbfhnkjcfpfpaaDoorCards
namespace Go.Proofs.YtjbfhnkjcfpfpaaDoor.HandleTells
set_option maxRecDepth 20000
open Go.ChangeShapes Go.WideShapes Go.ChangeAt Go.RowKit KM WaM Str HaM Lay
open Go.Proofs.YtjbfhnkjcfpfpaaDoor.Law30 (wf_u64 wf_i64 Held)
open Ref30 (refI refV plan_cell plan_below)
set_option linter.unusedVariables false

theorem held {W : World} (h : laidMetH Tryd.prog Rows.handleTellsRow.laid W) : Held W :=
  Law30.held_of h (by kernel_rfl) (List.mem_of_getElem? (i := 2) rfl) (List.mem_of_getElem? (i := 3) rfl) (List.mem_of_getElem? (i := 4) rfl)
theorem cells (T S L G : Int) (w : World) : (w.alloc (.cells #[.int .i64 T, .int .i64 S, .int .i64 L, .int .u64 G] 24)).cell? ⟨w.heap.size, 0, none⟩ = some (.int .i64 T) ∧ (w.alloc (.cells #[.int .i64 T, .int .i64 S, .int .i64 L, .int .u64 G] 24)).cell? ⟨w.heap.size, 1, none⟩ = some (.int .i64 S) ∧ (w.alloc (.cells #[.int .i64 T, .int .i64 S, .int .i64 L, .int .u64 G] 24)).cell? ⟨w.heap.size, 2, none⟩ = some (.int .i64 L) ∧ (w.alloc (.cells #[.int .i64 T, .int .i64 S, .int .i64 L, .int .u64 G] 24)).cell? ⟨w.heap.size, 3, none⟩ = some (.int .u64 G) :=
  ⟨box_cell (Below.refl _ _) 0, box_cell (Below.refl _ _) 1, box_cell (Below.refl _ _) 2, box_cell (Below.refl _ _) 3⟩
theorem walk_one (T S L G r h : Int) (hS : S ≤ 9223372036854775807) (hr : 0 ≤ r ∧ r < 18446744073709551616) (hh : 0 ≤ h ∧ h < 18446744073709551616) (w : World) (hL : Held w) :
    Calls Tryd.prog 3 #[.agg #[.int .i64 T, .int .i64 S, .int .i64 L, .int .u64 G], .int .u64 r, .int .u64 h] w fun e w' => e = .returned (.bool true) ∧ Below w.heap.size w w' := by
  obtain ⟨c0, c1, c2, c3⟩ := cells T S L G w
  have hb0 := plan_below T S L G w
  have HB := Lib.hid hb0
  have HL := Lib.hid (hL.later hb0)
  obtain ⟨v, hv⟩ : ∃ v, (refI S h).1 = v := ⟨_, rfl⟩
  obtain ⟨k, hk⟩ : ∃ k, (refI S h).2 = k := ⟨_, rfl⟩
  have H1 := Lib.hid fun w => Handle.Ref_any (T := T) (S := S) (L := L) (G := G) hh w
  have H2 := Lib.hid fun w => Ref30.Ref_any (T := T) (L := L) (G := G) hS hh w
  unfold refV at H1 H2
  rw [hv, hk] at H1 H2
  have H3 := Lib.hid fun w => Handle.Of_any hr w
  have H4 := Lib.hid fun w => Ref30.Of_any hr w
  obtain ⟨t, ht⟩ : ∃ t, textH h = t := ⟨_, rfl⟩
  obtain ⟨o, ho⟩ : ∃ o, handI r = o := ⟨_, rfl⟩
  rw [ho] at H3 H4
  have H5 := Lib.hid fun w hT => Handle.Text_any hh w hT
  have H6 := Lib.hid fun w => Ref30.Text_any hh w
  rw [ht] at H5 H6
  have HE := bs_same t
  clear hv hk ht ho hS hr hh hL hb0
  go_enter Tryd.func3, Tryd.ntmps3
  go_wp2_with fail
  refine (H1.out _).mono ?_
  rintro e w1 ⟨rfl, hb1⟩
  have B1 := Lib.hid hb1
  obtain ⟨c0, c1, c2, c3⟩ := (show w1.cell? ⟨w.heap.size, 0, none⟩ = some (.int .i64 T) ∧ w1.cell? ⟨w.heap.size, 1, none⟩ = some (.int .i64 S) ∧ w1.cell? ⟨w.heap.size, 2, none⟩ = some (.int .i64 L) ∧ w1.cell? ⟨w.heap.size, 3, none⟩ = some (.int .u64 G) from
    ⟨(hb1.cell (by simp)).trans c0, (hb1.cell (by simp)).trans c1, (hb1.cell (by simp)).trans c2, (hb1.cell (by simp)).trans c3⟩)
  clear hb1
  go_wp2_with fail
  refine (H2.out _).mono ?_
  rintro e w2 ⟨rfl, hb2⟩
  have B2 := Lib.hid (B1.out.trans (hb2.mono B1.out.size))
  clear hb2
  go_wp2_with fail
  refine (H3.out _).mono ?_
  rintro e w' ⟨rfl, rfl⟩
  go_wp2_with fail
  refine (H4.out _).mono ?_
  rintro e w' ⟨rfl, rfl⟩
  go_wp2_with fail
  refine (H5.out _ (HL.out.later B2.out).1).mono ?_
  rintro e w3 ⟨rfl, hb3⟩
  have B3 := Lib.hid (B2.out.trans (hb3.mono B2.out.size))
  clear hb3
  go_wp2_with fail
  refine (H6.out _).mono ?_
  rintro e w4 ⟨rfl, hb4⟩
  have B4 := Lib.hid (B3.out.trans (hb4.mono B3.out.size))
  clear hb4
  go_wp2_with fail
  refine (Law30.awake_any _ (HL.out.later B4.out)).mono ?_
  rintro e w5 ⟨rfl, hb5⟩
  have B5 := Lib.hid (B4.out.trans (hb5.mono B4.out.size))
  clear hb5
  go_wp2
  go_ret
  exact ⟨rfl, HB.out.trans (B5.out.mono HB.out.size)⟩
theorem walk (x0 : Int × Int × Int × Int) (r h : Int) (_ : (Lit.int .i64 x0.1).wf = true) (w1 : (Lit.int .i64 x0.2.1).wf = true) (_ : (Lit.int .i64 x0.2.2.1).wf = true) (_ : (Lit.int .u64 x0.2.2.2).wf = true) (wr : (Lit.int .u64 r).wf = true) (wh : (Lit.int .u64 h).wf = true) (w : World) (hL : Held w) :
    Calls Tryd.prog 3 #[.agg #[.int .i64 x0.1, .int .i64 x0.2.1, .int .i64 x0.2.2.1, .int .u64 x0.2.2.2], .int .u64 r, .int .u64 h] w fun e w' => e = .returned (.bool true) ∧ Below w.heap.size w w' :=
  walk_one _ _ _ _ r h (wf_i64 w1).2 (wf_u64 wr) (wf_u64 wh) w hL

theorem laidOut : laidOutB Tryd.prog = true := by kernel_rfl
theorem own : ownKnob Tryd.prog.godebug = none := by kernel_rfl
theorem door_met (os : Os) (args : Array Value) : laidMetH Tryd.prog Rows.handleTellsRow.laid ((World.doorLaid Tryd.prog 400 os).forCall (fun _ _ => 0) ⟨#[], args, []⟩).memory :=
  laidMetH_of_parts3 (fuel := 8) (laidMet_of_run' 8 (by kernel_rfl) (by kernel_rfl)) (by kernel_rfl) (by kernel_rfl)
set_option maxRecDepth 100000 in
theorem lifted (os : Os) (started : os.Started) (H : Type) (enc : TypeId × Value → H) :
    ReturnsInHanded {} Tryd.checked os 3 .any (fun w args => (Rows.handleTellsSpec.pre enc Tryd.prog Tryd.f3 [] false w args ∧ laidMetH Tryd.prog Rows.handleTellsRow.laid w) ∧ sizedMet enc Tryd.prog Tryd.f3 (OpenSpec.ofChange Rows.handleTellsSpec) false w args) (Rows.handleTellsSpec.post enc Tryd.prog Tryd.f3 false true false false) := by
  refine Frame.liftedLaid (C := Tryd.checked) (fn := Tryd.f3) (tb := 4) own started (by kernel_rfl) Tryd.func3
    (ChangeSpec.witness_shaped (enc := enc) (C := Tryd.checked) (os := os) (X := fun w _ => laidMetH Tryd.prog Rows.handleTellsRow.laid w) false (World.doorLaid Tryd.prog 400 os) #[.agg #[.int .i64 0, .int .i64 0, .int .i64 0, .int .u64 0], .int .u64 0, .int .u64 0] 8 rfl (World.shaped_of_RefB (by kernel_rfl) (by kernel_rfl)) (by kernel_rfl) (by kernel_rfl) (by kernel_rfl) (door_met os _))
    rfl rfl Tryd.underlying4 laidOut (by kernel_rfl) (fun ds h => by match ds, h with | [_, _, _], _ => rfl) ?_
  intro W base args ds ps hval0 hA0 hlt hL
  have hval : ∀ (j : Nat) t v, Tryd.f3.params[j]? = some t → args[j]? = some v → Value.okWide Tryd.prog W .any base t v := hval0
  have hA : DataW.TrodAll enc Tryd.prog W 0 (fun _ => true) true Tryd.f3.params.toList args.toList ds ps := hA0
  rw [Tryd.params3] at hA hval
  obtain ⟨v0, vs0, d0, ds0, p0, q0, hargs, rfl, rfl, h0, r0⟩ := trodAll_cons hA
  obtain ⟨v1, vs1, d1, ds1, p1, q1, rfl, rfl, rfl, h1, r1⟩ := trodAll_cons r0
  obtain ⟨v2, vs2, d2, ds2, p2, q2, rfl, rfl, rfl, h2, r2⟩ := trodAll_cons r1
  obtain ⟨rfl, rfl, rfl⟩ := trodAll_nil r2
  obtain rfl : args = #[v0, v1, v2] := by cases args; simp_all
  obtain ⟨x0, rfl, w0_0, w0_1, w0_2, w0_3⟩ := Open.open_four_ints Tryd.underlying24 (by kernel_rfl) (by kernel_rfl) Tryd.underlying3 Tryd.underlying3 Tryd.underlying3 Tryd.underlying22 (hval 0 24 v0 rfl rfl) h0
  obtain ⟨a1, rfl, _, _, w1⟩ := open_int Tryd.underlying22 (hval 1 22 v1 rfl rfl) h1
  obtain ⟨a2, rfl, _, _, w2⟩ := open_int Tryd.underlying22 (hval 2 22 v2 rfl rfl) h2
  refine (walk x0 a1 a2 w0_0 w0_1 w0_2 w0_3 w1 w2 W (held hL)).mono fun e W' h => ?_
  exact h

theorem over : Rows.handleTellsRow.holds Tryd.pinned (OpenSpec.ofChange Rows.handleTellsSpec) :=
  OpenClaim.holds_of_wide 3 Tryd.f3 rfl rfl rfl rfl rfl rfl rfl ⟨rfl, rfl, rfl, rfl, rfl⟩ rfl rfl rfl rfl rfl (by kernel_rfl) Tryd.func3 (by kernel_rfl)
    (of_decide_eq_true (by kernel_rfl)) (by unfold Func.isWrapper; first | (rw [if_pos (by decide +kernel)]; kernel_rfl) | (rw [if_neg (by decide +kernel)]; exact ⟨rfl, rfl⟩))
    (fun os started H enc _ => lifted os started H enc)

theorem proved : Rows.HandleTellsCardSaid :=
  Claim7.holds_tied_plain_at .later [] Rows.handleTellsCard.laidKinds true Rows.handleTellsCard.stood.harness Rows.handleTellsCard.stood.looks
    over (fun _ h => by cases h) (by kernel_rfl) (fun _ h => by cases h) handleTells_row_tie rfl ⟨rfl, rfl⟩ (by kernel_rfl) rfl
    (fun f fn hf hfn => by
      obtain rfl : f = 3 := Option.some.inj ((show Tryd.prog.funcNamed Rows.handleTellsRow.func = some 3 by kernel_rfl).symm.trans hf) |>.symm
      obtain rfl : fn = Tryd.f3 := (Option.some.inj (Tryd.func3.symm.trans hfn)).symm
      exact ⟨by kernel_rfl, fun j t ht => by
        rw [Tryd.params3] at ht
        have hm : t ∈ [24, 22, 22] := by simpa using Array.mem_of_getElem? ht
        have hall : ([24, 22, 22].all fun u => !Tryd.prog.wantsStandIn u) = true := by kernel_rfl
        exact (show Tryd.prog.wantsStandIn t = false by simpa using List.all_eq_true.1 hall t hm)⟩)
    (by kernel_rfl)
#print axioms proved
end Go.Proofs.YtjbfhnkjcfpfpaaDoor.HandleTells
