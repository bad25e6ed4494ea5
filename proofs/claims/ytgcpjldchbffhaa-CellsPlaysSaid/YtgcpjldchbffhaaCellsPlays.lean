/- CellsPlays: for every list of words and every list of accesses, what each access finds, one behind the other, and which words there are then, is what the document's answer for layer 6 tells (of a list of more than 5000 words, or of more than 100 accesses, just the chapter's example is asked); the arguments read as they did. No condition. -/
import Derived.Test.YtgcpjldchbffhaaFrame
import Derived.Test.YtgcpjldchbffhaaCellsAwake
namespace Go.Proofs.Ytgcpjldchbffhaa.CellsPlays
open Go.ChangeShapes Go.WideShapes Go.ChangeAt Go.RowKit CM Lay Ints Cells

set_option maxHeartbeats 1000000 in
theorem walk (A : Option Addr) (l : List Int) (c : Nat) (B : Option Addr) (os : List (Int × Int × Int × Int)) (d : Nat) (w : World)
    (hR : Row w w.heap.size A (flat (encZ .u64) l)) (hl : l.length ≤ maxLen) (_ : ∀ x ∈ l, (Lit.int .u64 x).wf = true)
    (hS : Row w w.heap.size B (flat (Open.enc4 .i64 .i64 .u64 .u64) os)) (hs : os.length ≤ maxLen) (_ : ∀ x ∈ os, (Lit.int .i64 x.1).wf = true ∧ (Lit.int .i64 x.2.1).wf = true ∧ (Lit.int .u64 x.2.2.1).wf = true ∧ (Lit.int .u64 x.2.2.2).wf = true) :
    Calls Try.prog 3 #[.slice A l.length c, .slice B os.length d] w fun e w' => e = .returned (.bool true) ∧ Below w.heap.size w w' := by
  obtain ⟨n, hn⟩ : ∃ n, n = l.length := ⟨_, rfl⟩
  obtain ⟨m, hm⟩ : ∃ m, m = os.length := ⟨_, rfl⟩
  unfold maxLen at hl hs
  rw [← hn] at hl ⊢
  rw [← hm] at hs ⊢
  have HN := Lib.hid hn
  have HM := Lib.hid hm
  have HR := Lib.hid hR
  have HS := Lib.hid hS
  clear hn hm hR hS
  by_cases hbig : 5000 < n
  · go_enter Try.func3, Try.ntmps3
    go_wp2_with fail
    refine (Law06.awake_any _).mono ?_
    rintro e w' ⟨rfl, hb⟩
    go_wp2
    go_ret
    exact ⟨rfl, hb⟩
  · by_cases hmany : 100 < m
    · go_enter Try.func3, Try.ntmps3
      go_wp2_with fail
      refine (Law06.awake_any _).mono ?_
      rintro e w' ⟨rfl, hb⟩
      go_wp2
      go_ret
      exact ⟨rfl, hb⟩
    · by_cases hmost : 4096 < n
      · go_enter Try.func3, Try.ntmps3
        go_wp2_with fail
        refine (Of_none hmost).mono ?_
        rintro e w' ⟨rfl, rfl⟩
        go_wp2_with fail
        refine (Law06.awake_any _).mono ?_
        rintro e w' ⟨rfl, hb⟩
        go_wp2
        go_ret
        exact ⟨rfl, hb⟩
      · have hfit : n ≤ 4096 := by omega
        go_enter Try.func3, Try.ntmps3
        go_wp2_with fail
        refine (Of_any HR.out HN.out hfit).mono ?_
        rintro e w1 ⟨p, h, rfl, m1, p1, h1, b1⟩
        have M1 := Lib.hid m1
        have B1 := Lib.hid b1
        have R1 := Lib.hid (HR.out.later b1)
        have O1 := Lib.hid (row_old HR.out h1)
        clear m1 b1
        go_wp2
        go_loopw [7, 8] (fun v i wr => ∃ (k : Nat) (A' : Option Addr) (c' : Nat) (ws : List Int), k ≤ m ∧ i = .int .i64 k ∧ v = .slice A' n c' ∧ Row wr wr.heap.size A' (flat (encZ .u64) ws) ∧ (flat (encZ .u64) ws ≠ [] → ∀ a, A' = some a → a.block ≠ h) ∧ Mem wr p h n ws ∧ Below w.heap.size w wr)
          (fun _ i _ => m - (intOf i).toNat)
        case atStart => exact ⟨0, A, c, l, Nat.zero_le _, rfl, rfl, R1.out, O1.out, M1.out, B1.out⟩
        case round =>
          obtain ⟨k, A', c', ws, hk, rfl, rfl, hr, ha, hm, hb⟩ := hrel
          have RR := Lib.hid hr
          have RA := Lib.hid ha
          have RM := Lib.hid hm
          have RB := Lib.hid hb
          clear hr ha hm hb
          by_cases hlt : k < m
          · have hlt' : k < os.length := by rw [← HM.out]; exact hlt
            obtain ⟨b, o, rfl, hbB, hc⟩ := Open.four_at (HS.out.later RB.out) hlt'
            obtain ⟨x, hx⟩ : ∃ x, os[k]? = some x := ⟨_, List.getElem?_eq_getElem hlt'⟩
            obtain ⟨c0, c1, c2, c3⟩ := hc k x hx
            have C0 := Lib.hid c0
            have C1 := Lib.hid c1
            have C2 := Lib.hid c2
            have C3 := Lib.hid c3
            have HD := Lib.hid (CellsRef.Do_any A' ws n c' x wr RM.out.len hfit RR.out)
            have HL := Lib.hid (nextI_length ws x)
            have HO := Lib.hid fun w2 (hM : Mem w2 p h n ws) => Law06.do_any hM x
            generalize getI ws x.2.1 = f at HD HO
            generalize nextI ws x = ws2 at HD HO HL
            clear hc hx
            go_wp2_with fail
            refine (HD.out).mono ?_
            rintro e w' ⟨A2, c2', rfl, r2, a2, b2⟩
            have d0 := cell_later b2 C0.out
            have d1 := cell_later b2 C1.out
            have d2 := cell_later b2 C2.out
            have d3 := cell_later b2 C3.out
            have R2 := Lib.hid r2
            have A2h := Lib.hid a2
            have B2 := Lib.hid b2
            clear r2 a2 b2 c0 c1 c2 c3
            go_wp2_with fail
            refine (HO.out _ (RM.out.later B2.out)).mono ?_
            rintro e w' ⟨rfl, g3, m3⟩
            have M3 := Lib.hid m3
            have G3 := Lib.hid g3
            clear m3 g3 d0 d1 d2 d3
            go_wp2
            go_roundw
            case rel =>
              have hA2 : flat (encZ .u64) ws2 ≠ [] → ∀ a, A2 = some a → a.block ≠ h := fun hne a e => by
                rcases A2h.out a e with e2 | e2
                · exact RA.out (flat_none HL.out hne) a e2
                · have := RM.out.lt.2
                  omega
              exact ⟨k + 1, A2, c2', ws2, by omega, by go_num, rfl, row_grown R2.out G3.out hA2, hA2, M3.out, below_of_grown (RB.out.trans (B2.out.mono RB.out.size)) G3.out (Nat.le_trans RB.out.size B2.out.size) h1⟩
            case measure => simp [intOf]; omega
          · obtain rfl : k = m := by omega
            go_wp2_with fail
            refine (Words_any RM.out).mono ?_
            rintro e w5 ⟨rfl, o5, b5⟩
            have R5 := Lib.hid (Row.of_own o5)
            have B5 := Lib.hid b5
            clear o5 b5
            go_wp2_with fail
            refine (CellsRef.Same_yes (l := ws) RM.out.len RM.out.len R5.out (RR.out.later B5.out) (by rw [← RM.out.len]; simp only [maxLen]; omega)).mono ?_
            rintro e w' ⟨rfl, b6⟩
            have B6 := Lib.hid (B5.out.trans (b6.mono B5.out.size))
            clear b6
            go_wp2_with fail
            refine (Len_any (RM.out.later B6.out)).mono ?_
            rintro e w' ⟨rfl, rfl⟩
            go_wp2_with fail
            refine (Law06.awake_any _).mono ?_
            rintro e w' ⟨rfl, b7⟩
            have B7 := Lib.hid (B6.out.trans (b7.mono B6.out.size))
            clear b7
            go_wp2
            go_ret
            exact ⟨rfl, RB.out.trans (B7.out.mono RB.out.size)⟩
theorem laidOut : laidOutB Try.prog = true := by kernel_rfl
theorem own : ownKnob Try.prog.godebug = none := by kernel_rfl
theorem lifted (os : Os) (started : os.Started) (H : Type) (enc : TypeId × Value → H) :
    ReturnsInHanded {} Try.checked os 3 .any (Rows.cellsPlaysSpec.pre6 enc Try.prog Try.f3 Rows.cellsPlaysRow.domain false) (Rows.cellsPlaysSpec.post enc Try.prog Try.f3 false true false false) := by
  refine Frame.lifted (C := Try.checked) (fn := Try.f3) (tb := 4) own started (by kernel_rfl) Try.func3
    (ChangeSpec.witness6 (enc := enc) (C := Try.checked) false ⟨#[], #[.slice none 0 0, .slice none 0 0], []⟩ 8 (by kernel_rfl) (by kernel_rfl) (by kernel_rfl) (by kernel_rfl))
    rfl rfl Try.underlying4 laidOut (by kernel_rfl) (fun ds h => by match ds, h with | [_, _], _ => rfl) ?_
  intro W base args ds ps hval0 hA0 hlt
  have hval : ∀ (j : Nat) t v, Try.f3.params[j]? = some t → args[j]? = some v → Value.okWide Try.prog W .any base t v := hval0
  have hA : DataW.TrodAll enc Try.prog W 0 (fun _ => true) true Try.f3.params.toList args.toList ds ps := hA0
  rw [Try.params3] at hA hval
  obtain ⟨v0, vs0, d0, ds0, p0, q0, hargs, rfl, rfl, h0, r0⟩ := trodAll_cons hA
  obtain ⟨v1, vs1, d1, ds1, p1, q1, rfl, rfl, rfl, h1, r1⟩ := trodAll_cons r0
  obtain ⟨rfl, rfl, rfl⟩ := trodAll_nil r1
  obtain rfl : args = #[v0, v1] := by cases args; simp_all
  obtain ⟨A0, x0, c0, rfl, b0, m0, R0, g0⟩ := Open.open_rows (k := 1) (Ints.encZ .u64) (fun x => (Lit.int .u64 x).wf = true) Try.underlying22 (by kernel_rfl) (by decide) (Ints.encZ_length _) (fun n cs y h hl => Ints.one_int Try.underlying29 n cs y h hl) (hval 0 22 v0 rfl rfl) h0
  obtain ⟨A1, x1, c1, rfl, b1, m1, R1, g1⟩ := Open.open_rows (k := 4) (Open.enc4 .i64 .i64 .u64 .u64) (fun x => (Lit.int .i64 x.1).wf = true ∧ (Lit.int .i64 x.2.1).wf = true ∧ (Lit.int .u64 x.2.2.1).wf = true ∧ (Lit.int .u64 x.2.2.2).wf = true) Try.underlying23 (by kernel_rfl) (by decide) (Open.enc4_length .i64 .i64 .u64 .u64) (fun n cs y h hl => Open.four_ints Try.underlying33 (by kernel_rfl) Try.underlying3 Try.underlying3 Try.underlying29 Try.underlying29 n cs y h hl) (hval 1 23 v1 rfl rfl) h1
  refine (walk A0 x0 c0 A1 x1 c1 W R0 (Nat.le_trans b0 m0) g0 R1 (Nat.le_trans b1 m1) g1).mono fun e W' h => ?_
  exact h

theorem over : Rows.cellsPlaysRow.holds Try.pinned (OpenSpec.ofChange Rows.cellsPlaysSpec) :=
  OpenClaim.holds_of_wide 3 Try.f3 rfl rfl rfl rfl rfl rfl rfl ⟨rfl, rfl, rfl, rfl, rfl⟩ rfl rfl rfl rfl rfl (by kernel_rfl) Try.func3 (by kernel_rfl)
    (of_decide_eq_true (by kernel_rfl)) (by unfold Func.isWrapper; first | (rw [if_pos (by decide +kernel)]; kernel_rfl) | (rw [if_neg (by decide +kernel)]; exact ⟨rfl, rfl⟩))
    (fun os started H enc _ => lifted os started H enc)

theorem proved : Rows.CellsPlaysSaid := over
#print axioms proved
end Go.Proofs.Ytgcpjldchbffhaa.CellsPlays
