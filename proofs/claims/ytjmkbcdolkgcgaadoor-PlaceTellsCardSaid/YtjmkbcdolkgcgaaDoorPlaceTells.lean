/- PlaceTells: for every plan p, every number at and every spot s, what the word at that place of p is for, where the word for s stands, and the text of s, are what the document's answer for layer 9 tells, and the chapter's examples come out; the arguments read as they did. Conditions: the program's table of names and the library's listed tables hold what their own texts lay in them (tied by the card). -/
import Derived.Test.YtjmkbcdolkgcgaaDoorPlaceAwake
import Derived.Test.YtjmkbcdolkgcgaaDoorPlaceRef
import Derived.Test.YtjmkbcdolkgcgaaDoorPlaceRefText
import Derived.Test.YtjmkbcdolkgcgaaDoorFour
import Derived.Test.YtjmkbcdolkgcgaaDoorThree
import Derived.Test.YtjmkbcdolkgcgaaDoorFrame
import Derived.Test.YtjmkbcdolkgcgaaDoorCards
namespace Go.Proofs.YtjmkbcdolkgcgaaDoor.PlaceTells
open Go.ChangeShapes Go.WideShapes Go.ChangeAt Go.RowKit PM Lay Str Fmt Num PlaceText
open Go.Proofs.YtjmkbcdolkgcgaaDoor.Place (spotV)
open Go.Proofs.YtjmkbcdolkgcgaaDoor.Law09 (Held)
set_option linter.unusedVariables false

theorem held {W : World} (h : laidMetH Tryd.prog Rows.placeTellsRow.laid W) : Held W :=
  Law09.held_of h (by kernel_rfl) (List.mem_of_getElem? (i := 3) rfl) (List.mem_of_getElem? (i := 2) rfl)

theorem ref_what {T S L G i a b c : Int} (h : whatI T S L G i = (a, b, c)) (w : World) : Calls Tryd.prog 7 #[.agg #[.int .i64 T, .int .i64 S, .int .i64 L, .int .u64 G], .int .i64 i] w fun e w' => e = .returned (.agg #[.int .i64 a, .int .i64 b, .int .i64 c]) ∧ Below w.heap.size w w' := by
  have := PlaceRef.What_any T S L G i w
  rw [h] at this
  exact this
theorem ref_where {T S L G a b c n : Int} (h : whereI T S L G (a, b, c) = n) (w : World) : Calls Tryd.prog 9 #[.agg #[.int .i64 T, .int .i64 S, .int .i64 L, .int .u64 G], .agg #[.int .i64 a, .int .i64 b, .int .i64 c]] w fun e w' => e = .returned (.int .i64 n) ∧ Below w.heap.size w w' := by
  have := PlaceRef.Where_any T S L G (a, b, c) w
  rw [h] at this
  exact this
theorem ref_text {a b c : Int} {l : List UInt8} (h : textS (a, b, c) = l) (hb : Fit b) (hc : Fit c) (w : World) : Calls Tryd.prog 11 #[.agg #[.int .i64 a, .int .i64 b, .int .i64 c]] w fun e w' => e = .returned (.string (bs l)) ∧ Below w.heap.size w w' := by
  have := PlaceRefText.Text_any (a, b, c) hb hc w
  rw [h] at this
  exact this
theorem boxes (T S L G k o l : Int) (w : World) : (((w.alloc (.cells #[.int .i64 T, .int .i64 S, .int .i64 L, .int .u64 G] 24)).alloc (.cells #[.int .i64 k, .int .i64 o, .int .i64 l] 26)).cell? ⟨w.heap.size, 0, none⟩ = some (.int .i64 T) ∧ ((w.alloc (.cells #[.int .i64 T, .int .i64 S, .int .i64 L, .int .u64 G] 24)).alloc (.cells #[.int .i64 k, .int .i64 o, .int .i64 l] 26)).cell? ⟨w.heap.size, 1, none⟩ = some (.int .i64 S) ∧ ((w.alloc (.cells #[.int .i64 T, .int .i64 S, .int .i64 L, .int .u64 G] 24)).alloc (.cells #[.int .i64 k, .int .i64 o, .int .i64 l] 26)).cell? ⟨w.heap.size, 2, none⟩ = some (.int .i64 L) ∧ ((w.alloc (.cells #[.int .i64 T, .int .i64 S, .int .i64 L, .int .u64 G] 24)).alloc (.cells #[.int .i64 k, .int .i64 o, .int .i64 l] 26)).cell? ⟨w.heap.size, 3, none⟩ = some (.int .u64 G)) ∧
    (((w.alloc (.cells #[.int .i64 T, .int .i64 S, .int .i64 L, .int .u64 G] 24)).alloc (.cells #[.int .i64 k, .int .i64 o, .int .i64 l] 26)).cell? ⟨w.heap.size + 1, 0, none⟩ = some (.int .i64 k) ∧ ((w.alloc (.cells #[.int .i64 T, .int .i64 S, .int .i64 L, .int .u64 G] 24)).alloc (.cells #[.int .i64 k, .int .i64 o, .int .i64 l] 26)).cell? ⟨w.heap.size + 1, 1, none⟩ = some (.int .i64 o) ∧ ((w.alloc (.cells #[.int .i64 T, .int .i64 S, .int .i64 L, .int .u64 G] 24)).alloc (.cells #[.int .i64 k, .int .i64 o, .int .i64 l] 26)).cell? ⟨w.heap.size + 1, 2, none⟩ = some (.int .i64 l)) ∧ Below w.heap.size w ((w.alloc (.cells #[.int .i64 T, .int .i64 S, .int .i64 L, .int .u64 G] 24)).alloc (.cells #[.int .i64 k, .int .i64 o, .int .i64 l] 26)) := by
  obtain ⟨hb, h1, h2⟩ := box2 w #[.int .i64 T, .int .i64 S, .int .i64 L, .int .u64 G] #[.int .i64 k, .int .i64 o, .int .i64 l] 24 26
  exact ⟨⟨h1 0, h1 1, h1 2, h1 3⟩, ⟨h2 0, h2 1, h2 2⟩, hb⟩

set_option maxHeartbeats 2000000 in
theorem walk_one (T S L G i k o l : Int) (ho : Fit o) (hl : Fit l) (w : World) (hL : Held w) :
    Calls Tryd.prog 3 #[.agg #[.int .i64 T, .int .i64 S, .int .i64 L, .int .u64 G], .int .i64 i, .agg #[.int .i64 k, .int .i64 o, .int .i64 l]] w fun e w' => e = .returned (.bool true) ∧ Below w.heap.size w w' := by
  obtain ⟨⟨c0, c1, c2, c3⟩, ⟨d0, d1, d2⟩, hb⟩ := boxes T S L G k o l w
  have K_c0 := fun p : After ((w.alloc (.cells #[.int .i64 T, .int .i64 S, .int .i64 L, .int .u64 G] 24)).alloc (.cells #[.int .i64 k, .int .i64 o, .int .i64 l] 26)) => p.cell c0
  have K_c1 := fun p : After ((w.alloc (.cells #[.int .i64 T, .int .i64 S, .int .i64 L, .int .u64 G] 24)).alloc (.cells #[.int .i64 k, .int .i64 o, .int .i64 l] 26)) => p.cell c1
  have K_c2 := fun p : After ((w.alloc (.cells #[.int .i64 T, .int .i64 S, .int .i64 L, .int .u64 G] 24)).alloc (.cells #[.int .i64 k, .int .i64 o, .int .i64 l] 26)) => p.cell c2
  have K_c3 := fun p : After ((w.alloc (.cells #[.int .i64 T, .int .i64 S, .int .i64 L, .int .u64 G] 24)).alloc (.cells #[.int .i64 k, .int .i64 o, .int .i64 l] 26)) => p.cell c3
  have K_d0 := fun p : After ((w.alloc (.cells #[.int .i64 T, .int .i64 S, .int .i64 L, .int .u64 G] 24)).alloc (.cells #[.int .i64 k, .int .i64 o, .int .i64 l] 26)) => p.cell d0
  have K_d1 := fun p : After ((w.alloc (.cells #[.int .i64 T, .int .i64 S, .int .i64 L, .int .u64 G] 24)).alloc (.cells #[.int .i64 k, .int .i64 o, .int .i64 l] 26)) => p.cell d1
  have K_d2 := fun p : After ((w.alloc (.cells #[.int .i64 T, .int .i64 S, .int .i64 L, .int .u64 G] 24)).alloc (.cells #[.int .i64 k, .int .i64 o, .int .i64 l] 26)) => p.cell d2
  obtain ⟨⟨a, b, c⟩, hx⟩ : ∃ x, whatI T S L G i = x := ⟨_, rfl⟩
  obtain ⟨n, hn⟩ : ∃ n, whereI T S L G (k, o, l) = n := ⟨_, rfl⟩
  obtain ⟨t, ht⟩ : ∃ t, textS (k, o, l) = t := ⟨_, rfl⟩
  have HL := Lib.hid (hL.later hb)
  have HB := Lib.hid hb
  have H1 := Lib.hid fun w => Law09.What_is hx w
  have H2 := Lib.hid fun w => ref_what hx w
  have H3 := Lib.hid fun w => Law09.Where_is hn w
  have H4 := Lib.hid fun w => ref_where hn w
  have H5 := Lib.hid fun w hL => Law09.Text_is ht ho hl w hL
  have H6 := Lib.hid fun w => ref_text ht ho hl w
  have HE := Lib.hid (bs_same t)
  clear c0 c1 c2 c3 d0 d1 d2 hb hx hn ht ho hl hL
  go_enter Tryd.func3, Tryd.ntmps3
  go_wp2
  refine wp_region_after mixed (by kernel_rfl) ?_
  repeat (first | go_big_quiet_step ((first | (with_reducible exact calls_after (H1.out _)) | (with_reducible exact calls_after (H2.out _)) | (with_reducible exact calls_after (H3.out _)) | (with_reducible exact calls_after (H4.out _)) | (with_reducible exact calls_after (H5.out _ (HL.out.later (After.ok _)))) | (with_reducible exact calls_after (H6.out _)) | exact calls_after (Law09.awake_any _ (HL.out.later (After.ok _))))) | quiet_step ((first | (with_reducible exact calls_after (H1.out _)) | (with_reducible exact calls_after (H2.out _)) | (with_reducible exact calls_after (H3.out _)) | (with_reducible exact calls_after (H4.out _)) | (with_reducible exact calls_after (H5.out _ (HL.out.later (After.ok _)))) | (with_reducible exact calls_after (H6.out _)) | exact calls_after (Law09.awake_any _ (HL.out.later (After.ok _))))))
  refine wpQuiet_nil ?_
  intro _ hw'
  obtain ⟨pq, hw''⟩ := hw'
  subst hw''
  go_wp2
  go_ret
  exact ⟨rfl, HB.out.trans (pq.ok.mono HB.out.size)⟩
theorem walk (x0 : Int × Int × Int × Int) (i : Int) (x2 : Int × Int × Int) (_ : (Lit.int .i64 x0.1).wf = true) (_ : (Lit.int .i64 x0.2.1).wf = true) (_ : (Lit.int .i64 x0.2.2.1).wf = true) (_ : (Lit.int .u64 x0.2.2.2).wf = true) (_ : (Lit.int .i64 i).wf = true) (_ : (Lit.int .i64 x2.1).wf = true) (wo : (Lit.int .i64 x2.2.1).wf = true) (wl : (Lit.int .i64 x2.2.2).wf = true) (w : World) (hL : Held w) :
    Calls Tryd.prog 3 #[.agg #[.int .i64 x0.1, .int .i64 x0.2.1, .int .i64 x0.2.2.1, .int .u64 x0.2.2.2], .int .i64 i, .agg #[.int .i64 x2.1, .int .i64 x2.2.1, .int .i64 x2.2.2]] w fun e w' => e = .returned (.bool true) ∧ Below w.heap.size w w' :=
  walk_one _ _ _ _ i _ _ _ (Law09.fit_of wo) (Law09.fit_of wl) w hL

theorem laidOut : laidOutB Tryd.prog = true := by kernel_rfl
theorem own : ownKnob Tryd.prog.godebug = none := by kernel_rfl
theorem door_met (os : Os) (args : Array Value) : laidMetH Tryd.prog Rows.placeTellsRow.laid ((World.doorLaid Tryd.prog 400 os).forCall (fun _ _ => 0) ⟨#[], args, []⟩).memory :=
  laidMetH_of_parts3 (fuel := 8) (laidMet_of_run' 8 (by kernel_rfl) (by kernel_rfl)) (by kernel_rfl) (by kernel_rfl)
set_option maxRecDepth 100000 in
theorem lifted (os : Os) (started : os.Started) (H : Type) (enc : TypeId × Value → H) :
    ReturnsInHanded {} Tryd.checked os 3 .any (fun w args => (Rows.placeTellsSpec.pre enc Tryd.prog Tryd.f3 [] false w args ∧ laidMetH Tryd.prog Rows.placeTellsRow.laid w) ∧ sizedMet enc Tryd.prog Tryd.f3 (OpenSpec.ofChange Rows.placeTellsSpec) false w args) (Rows.placeTellsSpec.post enc Tryd.prog Tryd.f3 false true false false) := by
  refine Frame.liftedLaid (C := Tryd.checked) (fn := Tryd.f3) (tb := 4) own started (by kernel_rfl) Tryd.func3
    (ChangeSpec.witness_shaped (enc := enc) (C := Tryd.checked) (os := os) (X := fun w _ => laidMetH Tryd.prog Rows.placeTellsRow.laid w) false (World.doorLaid Tryd.prog 400 os) #[.agg #[.int .i64 0, .int .i64 0, .int .i64 0, .int .u64 0], .int .i64 0, .agg #[.int .i64 0, .int .i64 0, .int .i64 0]] 8 rfl (World.shaped_of_RefB (by kernel_rfl) (by kernel_rfl)) (by kernel_rfl) (by kernel_rfl) (by kernel_rfl) (door_met os _))
    rfl rfl Tryd.underlying4 laidOut (by kernel_rfl) (fun ds h => by match ds, h with | [_, _, _], _ => rfl) ?_
  intro W base args ds ps hval0 hA0 hlt hL
  have hval : ∀ (j : Nat) t v, Tryd.f3.params[j]? = some t → args[j]? = some v → Value.okWide Tryd.prog W .any base t v := hval0
  have hA : DataW.TrodAll enc Tryd.prog W 0 (fun _ => true) true Tryd.f3.params.toList args.toList ds ps := hA0
  rw [Tryd.params3] at hA hval
  obtain ⟨v0, vs0, d0, ds0, p0, q0, hargs, rfl, rfl, h0, r0⟩ := trodAll_cons hA
  obtain ⟨v1, vs1, d1, ds1, p1, q1, rfl, rfl, rfl, h1, r1⟩ := trodAll_cons r0
  obtain ⟨v2, vs2, d2, ds2, p2, q2, rfl, rfl, rfl, h2, r2⟩ := trodAll_cons r1
  obtain ⟨rfl, rfl, rfl⟩ := trodAll_nil r2
  obtain rfl : args = #[v0, v1, v2] := by cases args; simp_all
  obtain ⟨x0, rfl, w0_0, w0_1, w0_2, w0_3⟩ := Open.open_four_ints Tryd.underlying24 (by kernel_rfl) (by kernel_rfl) Tryd.underlying3 Tryd.underlying3 Tryd.underlying3 Tryd.underlying22 (hval 0 24 v0 rfl rfl) h0
  obtain ⟨a1, rfl, _, _, w1⟩ := open_int Tryd.underlying3 (hval 1 3 v1 rfl rfl) h1
  obtain ⟨x2, rfl, w2_0, w2_1, w2_2⟩ := Open.open_three_ints Tryd.underlying26 (by kernel_rfl) (by kernel_rfl) Tryd.underlying3 Tryd.underlying3 Tryd.underlying3 (hval 2 26 v2 rfl rfl) h2
  refine (walk x0 a1 x2 w0_0 w0_1 w0_2 w0_3 w1 w2_0 w2_1 w2_2 W (held hL)).mono fun e W' h => ?_
  exact h

theorem over : Rows.placeTellsRow.holds Tryd.pinned (OpenSpec.ofChange Rows.placeTellsSpec) :=
  OpenClaim.holds_of_wide 3 Tryd.f3 rfl rfl rfl rfl rfl rfl rfl ⟨rfl, rfl, rfl, rfl, rfl⟩ rfl rfl rfl rfl rfl (by kernel_rfl) Tryd.func3 (by kernel_rfl)
    (of_decide_eq_true (by kernel_rfl)) (by unfold Func.isWrapper; first | (rw [if_pos (by decide +kernel)]; kernel_rfl) | (rw [if_neg (by decide +kernel)]; exact ⟨rfl, rfl⟩))
    (fun os started H enc _ => lifted os started H enc)

theorem proved : Rows.PlaceTellsCardSaid :=
  Claim7.holds_tied_plain_at .later [] Rows.placeTellsCard.laidKinds true Rows.placeTellsCard.stood.harness Rows.placeTellsCard.stood.looks
    over (fun _ h => by cases h) (by kernel_rfl) (fun _ h => by cases h) placeTells_row_tie rfl ⟨rfl, rfl⟩ (by kernel_rfl) rfl
    (fun f fn hf hfn => by
      obtain rfl : f = 3 := Option.some.inj ((show Tryd.prog.funcNamed Rows.placeTellsRow.func = some 3 by kernel_rfl).symm.trans hf) |>.symm
      obtain rfl : fn = Tryd.f3 := (Option.some.inj (Tryd.func3.symm.trans hfn)).symm
      exact ⟨by kernel_rfl, fun j t ht => by
        rw [Tryd.params3] at ht
        have hm : t ∈ [24, 3, 26] := by simpa using Array.mem_of_getElem? ht
        have hall : ([24, 3, 26].all fun u => !Tryd.prog.wantsStandIn u) = true := by kernel_rfl
        exact (show Tryd.prog.wantsStandIn t = false by simpa using List.all_eq_true.1 hall t hm)⟩)
    (by kernel_rfl)
#print axioms proved
end Go.Proofs.YtjmkbcdolkgcgaaDoor.PlaceTells
