/- DeedDoes: for every list of words and every list of deeds, what each deed finds, one behind the other, and which words there are then, is what the document's answer for layer 7 tells, and at no memory a load finds 0 (of a list of more than 500 words, or of more than 100 deeds, just the chapter's example is asked); the arguments read as they did. Conditions: the library's listed tables hold what its own text lays in them (tied by the card). -/
import Derived.Test.YtghinmjebkpjhaaDoorDeedAwake
import Derived.Test.YtghinmjebkpjhaaDoorDeedRef
import Derived.Test.YtghinmjebkpjhaaDoorFive
import Derived.Test.YtghinmjebkpjhaaDoorFrame
import Derived.Test.YtghinmjebkpjhaaDoorCards
namespace Go.Proofs.YtghinmjebkpjhaaDoor.DeedDoes
open Go.ChangeShapes Go.WideShapes Go.ChangeAt Go.RowKit CM DM Lay Ints Cells Str Fmt

theorem held {W : World} (h : laidMetH Tryd.prog Rows.deedDoesRow.laid W) : Tens W :=
  Law07.held_of h (by kernel_rfl) (List.mem_of_getElem? (i := 2) rfl)

set_option maxHeartbeats 1000000 in
theorem walk (A : Option Addr) (l : List Int) (c : Nat) (B : Option Addr) (os : List D) (d : Nat) (w : World)
    (hR : Row w w.heap.size A (flat (encZ .u64) l)) (hl : l.length ≤ maxLen) (_ : ∀ x ∈ l, (Lit.int .u64 x).wf = true)
    (hS : Row w w.heap.size B (flat (Open.enc5 .i64 .i64 .u64 .u64 .u64) os)) (hs : os.length ≤ maxLen) (_ : ∀ x ∈ os, (Lit.int .i64 x.1).wf = true ∧ (Lit.int .i64 x.2.1).wf = true ∧ (Lit.int .u64 x.2.2.1).wf = true ∧ (Lit.int .u64 x.2.2.2.1).wf = true ∧ (Lit.int .u64 x.2.2.2.2).wf = true) (hL : Tens w) :
    Calls Tryd.prog 3 #[.slice A l.length c, .slice B os.length d] w fun e w' => e = .returned (.bool true) ∧ Below w.heap.size w w' := by
  obtain ⟨n, hn⟩ : ∃ n, n = l.length := ⟨_, rfl⟩
  obtain ⟨m, hm⟩ : ∃ m, m = os.length := ⟨_, rfl⟩
  unfold maxLen at hl hs
  rw [← hn] at hl ⊢
  rw [← hm] at hs ⊢
  have HN := Lib.hid hn
  have HM := Lib.hid hm
  have HR := Lib.hid hR
  have HS := Lib.hid hS
  have HT := Lib.hid hL
  clear hn hm hR hS hL
  by_cases hbig : 500 < n
  · go_enter Tryd.func3, Tryd.ntmps3
    go_wp2_with fail
    refine (Law07.awake_any _ HT.out).mono ?_
    rintro e w' ⟨rfl, hb⟩
    go_wp2
    go_ret
    exact ⟨rfl, hb⟩
  · by_cases hmany : 100 < m
    · go_enter Tryd.func3, Tryd.ntmps3
      go_wp2_with fail
      refine (Law07.awake_any _ HT.out).mono ?_
      rintro e w' ⟨rfl, hb⟩
      go_wp2
      go_ret
      exact ⟨rfl, hb⟩
    · have hfit : n ≤ 4096 := by omega
      go_enter Tryd.func3, Tryd.ntmps3
      go_wp2_with fail
      refine (Of_any HR.out HN.out hfit).mono ?_
      rintro e w1 ⟨p, h, rfl, m1, p1, h1, b1⟩
      have M1 := Lib.hid m1
      have B1 := Lib.hid b1
      have R1 := Lib.hid (HR.out.later b1)
      have O1 := Lib.hid (row_old HR.out h1)
      clear m1 b1
      go_wp2
      go_loopw [7, 8] (fun v i wr => ∃ (k : Nat) (A' : Option Addr) (c' : Nat) (ws : List Int), k ≤ m ∧ i = .int .i64 k ∧ v = .slice A' n c' ∧ Row wr wr.heap.size A' (flat (encZ .u64) ws) ∧ (flat (encZ .u64) ws ≠ [] → ∀ a, A' = some a → a.block ≠ h) ∧ Mem wr p h n ws ∧ Below w.heap.size w wr)
        (fun _ i _ => m - (intOf i).toNat)
      case atStart => exact ⟨0, A, c, l, Nat.zero_le _, rfl, rfl, R1.out, O1.out, M1.out, B1.out⟩
      case round =>
        obtain ⟨k, A', c', ws, hk, rfl, rfl, hr, ha, hm, hb⟩ := hrel
        have RR := Lib.hid hr
        have RA := Lib.hid ha
        have RM := Lib.hid hm
        have RB := Lib.hid hb
        clear hr ha hm hb
        by_cases hlt : k < m
        · have hlt' : k < os.length := by rw [← HM.out]; exact hlt
          obtain ⟨b, o, rfl, hbB, hc⟩ := Open.five_at (HS.out.later RB.out) hlt'
          obtain ⟨x, hx⟩ : ∃ x, os[k]? = some x := ⟨_, List.getElem?_eq_getElem hlt'⟩
          obtain ⟨c0, c1, c2, c3, c4⟩ := hc k x hx
          have C0 := Lib.hid c0
          have C1 := Lib.hid c1
          have C2 := Lib.hid c2
          have C3 := Lib.hid c3
          have C4 := Lib.hid c4
          have HD := Lib.hid (DeedRef.Do_any A' ws n c' x wr RM.out.len hfit RR.out)
          have HLn := Lib.hid (nextD_length ws x)
          have HO := Lib.hid fun w2 (hM : Mem w2 p h n ws) => DeedDo.Do_any hM x
          generalize foundD ws x = f at HD HO
          generalize nextD ws x = ws2 at HD HO HLn
          clear hc hx
          go_wp2_with fail
          refine (HD.out).mono ?_
          rintro e w' ⟨A2, c2', rfl, r2, a2, b2⟩
          have d0 := cell_later b2 C0.out
          have d1 := cell_later b2 C1.out
          have d2 := cell_later b2 C2.out
          have d3 := cell_later b2 C3.out
          have d4 := cell_later b2 C4.out
          have R2 := Lib.hid r2
          have A2h := Lib.hid a2
          have B2 := Lib.hid b2
          clear r2 a2 b2 c0 c1 c2 c3 c4
          go_wp2_with fail
          refine (HO.out _ (RM.out.later B2.out)).mono ?_
          rintro e w' ⟨rfl, g3, m3⟩
          have M3 := Lib.hid m3
          have G3 := Lib.hid g3
          clear m3 g3 d0 d1 d2 d3 d4
          go_wp2
          go_roundw
          case rel =>
            have hA2 : flat (encZ .u64) ws2 ≠ [] → ∀ a, A2 = some a → a.block ≠ h := fun hne a e => by
              rcases A2h.out a e with e2 | e2
              · exact RA.out (flat_none HLn.out hne) a e2
              · have := RM.out.lt.2
                omega
            exact ⟨k + 1, A2, c2', ws2, by omega, by go_num, rfl, row_grown R2.out G3.out hA2, hA2, M3.out, below_of_grown (RB.out.trans (B2.out.mono RB.out.size)) G3.out (Nat.le_trans RB.out.size B2.out.size) h1⟩
          case measure => simp [intOf]; omega
        · obtain rfl : k = m := by omega
          go_wp2_with fail
          refine (Words_any RM.out).mono ?_
          rintro e w5 ⟨rfl, o5, b5⟩
          have R5 := Lib.hid (Row.of_own o5)
          have B5 := Lib.hid b5
          clear o5 b5
          go_wp2_with fail
          refine (CellsRef.Same_yes (l := ws) RM.out.len RM.out.len R5.out (RR.out.later B5.out) (by rw [← RM.out.len]; simp only [maxLen]; omega)).mono ?_
          rintro e w' ⟨rfl, b6⟩
          have B6 := Lib.hid (B5.out.trans (b6.mono B5.out.size))
          clear b6
          go_wp2_with fail
          refine (DeedDo.Do_nil 0 0 0 0 _).mono ?_
          rintro e w' ⟨rfl, b7⟩
          have B7 := Lib.hid (B6.out.trans (b7.mono B6.out.size))
          clear b7
          go_wp2_with fail
          refine (Law07.awake_any _ (DeedText.tens_later HT.out (RB.out.trans (B7.out.mono RB.out.size)))).mono ?_
          rintro e w' ⟨rfl, b8⟩
          have B8 := Lib.hid (B7.out.trans (b8.mono B7.out.size))
          clear b8
          go_wp2
          go_ret
          exact ⟨rfl, RB.out.trans (B8.out.mono RB.out.size)⟩
theorem laidOut : laidOutB Tryd.prog = true := by kernel_rfl
theorem own : ownKnob Tryd.prog.godebug = none := by kernel_rfl
theorem door_met (os : Os) (args : Array Value) : laidMetH Tryd.prog Rows.deedDoesRow.laid ((World.doorLaid Tryd.prog 400 os).forCall (fun _ _ => 0) ⟨#[], args, []⟩).memory :=
  laidMetH_of_parts3 (fuel := 8) (laidMet_of_run' 8 (by kernel_rfl) (by kernel_rfl)) (by kernel_rfl) (by kernel_rfl)
set_option maxRecDepth 100000 in
theorem lifted (os : Os) (started : os.Started) (H : Type) (enc : TypeId × Value → H) :
    ReturnsInHanded {} Tryd.checked os 3 .any (fun w args => (Rows.deedDoesSpec.pre enc Tryd.prog Tryd.f3 [] false w args ∧ laidMetH Tryd.prog Rows.deedDoesRow.laid w) ∧ sizedMet enc Tryd.prog Tryd.f3 (OpenSpec.ofChange Rows.deedDoesSpec) false w args) (Rows.deedDoesSpec.post enc Tryd.prog Tryd.f3 false true false false) := by
  refine Frame.liftedLaid (C := Tryd.checked) (fn := Tryd.f3) (tb := 4) own started (by kernel_rfl) Tryd.func3
    (ChangeSpec.witness_shaped (enc := enc) (C := Tryd.checked) (os := os) (X := fun w _ => laidMetH Tryd.prog Rows.deedDoesRow.laid w) false (World.doorLaid Tryd.prog 400 os) #[.slice none 0 0, .slice none 0 0] 8 rfl (World.shaped_of_RefB (by kernel_rfl) (by kernel_rfl)) (by kernel_rfl) (by kernel_rfl) (by kernel_rfl) (door_met os _))
    rfl rfl Tryd.underlying4 laidOut (by kernel_rfl) (fun ds h => by match ds, h with | [_, _], _ => rfl) ?_
  intro W base args ds ps hval0 hA0 hlt hL
  have hval : ∀ (j : Nat) t v, Tryd.f3.params[j]? = some t → args[j]? = some v → Value.okWide Tryd.prog W .any base t v := hval0
  have hA : DataW.TrodAll enc Tryd.prog W 0 (fun _ => true) true Tryd.f3.params.toList args.toList ds ps := hA0
  rw [Tryd.params3] at hA hval
  obtain ⟨v0, vs0, d0, ds0, p0, q0, hargs, rfl, rfl, h0, r0⟩ := trodAll_cons hA
  obtain ⟨v1, vs1, d1, ds1, p1, q1, rfl, rfl, rfl, h1, r1⟩ := trodAll_cons r0
  obtain ⟨rfl, rfl, rfl⟩ := trodAll_nil r1
  obtain rfl : args = #[v0, v1] := by cases args; simp_all
  obtain ⟨A0, x0, c0, rfl, b0, m0, R0, g0⟩ := Open.open_rows (k := 1) (Ints.encZ .u64) (fun x => (Lit.int .u64 x).wf = true) Tryd.underlying22 (by kernel_rfl) (by decide) (Ints.encZ_length _) (fun n cs y h hl => Ints.one_int Tryd.underlying29 n cs y h hl) (hval 0 22 v0 rfl rfl) h0
  obtain ⟨A1, x1, c1, rfl, b1, m1, R1, g1⟩ := Open.open_rows (k := 5) (Open.enc5 .i64 .i64 .u64 .u64 .u64) (fun x => (Lit.int .i64 x.1).wf = true ∧ (Lit.int .i64 x.2.1).wf = true ∧ (Lit.int .u64 x.2.2.1).wf = true ∧ (Lit.int .u64 x.2.2.2.1).wf = true ∧ (Lit.int .u64 x.2.2.2.2).wf = true) Tryd.underlying23 (by kernel_rfl) (by decide) (Open.enc5_length .i64 .i64 .u64 .u64 .u64) (fun n cs y h hl => Open.five_ints Tryd.underlying33 (by kernel_rfl) Tryd.underlying3 Tryd.underlying3 Tryd.underlying29 Tryd.underlying29 Tryd.underlying29 n cs y h hl) (hval 1 23 v1 rfl rfl) h1
  refine (walk A0 x0 c0 A1 x1 c1 W R0 (Nat.le_trans b0 m0) g0 R1 (Nat.le_trans b1 m1) g1 (held hL)).mono fun e W' h => ?_
  exact h

theorem over : Rows.deedDoesRow.holds Tryd.pinned (OpenSpec.ofChange Rows.deedDoesSpec) :=
  OpenClaim.holds_of_wide 3 Tryd.f3 rfl rfl rfl rfl rfl rfl rfl ⟨rfl, rfl, rfl, rfl, rfl⟩ rfl rfl rfl rfl rfl (by kernel_rfl) Tryd.func3 (by kernel_rfl)
    (of_decide_eq_true (by kernel_rfl)) (by unfold Func.isWrapper; first | (rw [if_pos (by decide +kernel)]; kernel_rfl) | (rw [if_neg (by decide +kernel)]; exact ⟨rfl, rfl⟩))
    (fun os started H enc _ => lifted os started H enc)

theorem proved : Rows.DeedDoesCardSaid :=
  Claim7.holds_tied_plain_at .later [] Rows.deedDoesCard.laidKinds true Rows.deedDoesCard.stood.harness Rows.deedDoesCard.stood.looks
    over (fun _ h => by cases h) (by kernel_rfl) (fun _ h => by cases h) deedDoes_row_tie rfl ⟨rfl, rfl⟩ (by kernel_rfl) rfl
    (fun f fn hf hfn => by
      obtain rfl : f = 3 := Option.some.inj ((show Tryd.prog.funcNamed Rows.deedDoesRow.func = some 3 by kernel_rfl).symm.trans hf) |>.symm
      obtain rfl : fn = Tryd.f3 := (Option.some.inj (Tryd.func3.symm.trans hfn)).symm
      exact ⟨by kernel_rfl, fun j t ht => by
        rw [Tryd.params3] at ht
        have hm : t ∈ [22, 23] := by simpa using Array.mem_of_getElem? ht
        have hall : ([22, 23].all fun u => !Tryd.prog.wantsStandIn u) = true := by kernel_rfl
        exact (show Tryd.prog.wantsStandIn t = false by simpa using List.all_eq_true.1 hall t hm)⟩)
    (by kernel_rfl)
#print axioms proved
end Go.Proofs.YtghinmjebkpjhaaDoor.DeedDoes
