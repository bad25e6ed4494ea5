/- CellsNew: for every number and every access, a new memory has so many words, all 0, if there can be so many, else there is none; and in a nil memory nothing is found, and it has no words, and its copy is nil; the arguments read as they did. No condition. -/
import Derived.Test.YtgcpjldchbffhaaFrame
import Derived.Test.YtgcpjldchbffhaaCellsAwake
import Derived.RegionTactic
import Derived.ChangeAlike
namespace Go.Proofs.Ytgcpjldchbffhaa.CellsNew
open Go.ChangeShapes Go.WideShapes Go.ChangeAt Go.RowKit CM Lay Ints Cells
open Go.Proofs.Ytgcpjldchbffhaa.Law06 (do_nil)

theorem infoWord : (Try.prog.info? 29).map (fun i => (i.zero, i.size, i.bytes)) = some (some (.int .u64 0), 1, 8) := by kernel_rfl

theorem chain {w a b : World} (h : Below w.heap.size w a) (k : Below a.heap.size a b) : Below w.heap.size w b := h.trans (k.mono h.size)

theorem ba (w : World) (o : Obj) : Below w.heap.size w (w.alloc o) := (Below.refl _ _).alloc (Nat.le_refl _) _
/-- What Words tells, wherever it lies. -/
theorem Words_new {p h n : Nat} {l : List Int} {w : World} (hM : Mem w p h n l) : Calls Try.prog 11 #[.pointer (some ⟨p, 0, none⟩)] w fun e w' => ∃ A, e = .returned (.slice A n n) ∧ Row w' w'.heap.size A (flat (encZ .u64) l) ∧ Below w.heap.size w w' :=
  (Words_any hM).mono fun _ _ ⟨he, ho, hb⟩ => ⟨_, he, Row.of_own ho, hb⟩
/-- What 'make' does, as an equation. -/
theorem made_run (n : Nat) (hn : n ≤ 4096) : ∃ C : Array Value, C.toList = flat (encZ .u64) (List.replicate n 0) ∧
    ∀ W : World, (Instr.makeSlice 22 (.int .i64 (n : Int)) (.int .i64 (n : Int))).run Try.prog W = .ok (.slice (some ⟨W.heap.size, 0, none⟩) n n) (W.alloc (.cells C 29)) := by
  obtain ⟨i0, hi, hz0, hz1, hz2⟩ := info_parts infoWord
  refine ⟨_, made_ints .u64 0 n, fun W => ?_⟩
  have hr := run_make (P := Try.prog) W 22 29 i0 _ Try.underlying22 hi hz0 .i64 .i64 n n (by omega) (Int.le_refl _) (by rw [hz2]; omega) (by omega)
  simp only [Int.toNat_natCast] at hr
  rw [hz1] at hr
  exact hr
theorem row_made (W : World) (C : Array Value) (t : TypeId) {l : List Int} (h : C.toList = flat (encZ .u64) l) : Row (W.alloc (.cells C t)) (W.alloc (.cells C t)).heap.size (some ⟨W.heap.size, 0, none⟩) (flat (encZ .u64) l) := by
  rw [← h]
  exact row_new W C t

set_option maxHeartbeats 1000000 in
theorem walk_some (n : Nat) (hn : n ≤ 4096) (x : Int × Int × Int × Int) (w : World) :
    Calls Try.prog 4 #[.int .i64 n, .agg #[.int .i64 x.1, .int .i64 x.2.1, .int .u64 x.2.2.1, .int .u64 x.2.2.2]] w fun e w' => e = .returned (.bool true) ∧ Below w.heap.size w w' := by
  have HX := Lib.hid (show (List.replicate n (0 : Int)).length = n by simp)
  have HD := Lib.hid (do_nil x)
  obtain ⟨kd, i, a, b⟩ := x
  simp only at HD ⊢
  go_enter Try.func4, Try.ntmps4
  go_wp2_with fail
  refine (New_any hn _).mono ?_
  rintro e w1 ⟨p, h, rfl, m1, p1, h1, b1⟩
  have q0 := box_cell (w := w) (wr := w1) (by simpa using b1) 0
  have q1 := box_cell (w := w) (wr := w1) (by simpa using b1) 1
  have q2 := box_cell (w := w) (wr := w1) (by simpa using b1) 2
  have q3 := box_cell (w := w) (wr := w1) (by simpa using b1) 3
  simp at q0 q1 q2 q3
  have B1 := Lib.hid (below_past (w := w) (wr := w1) (by simpa using b1))
  have M1 := Lib.hid m1
  obtain ⟨l, hl⟩ : ∃ l, l = List.replicate n (0 : Int) := ⟨_, rfl⟩
  rw [← hl] at M1 HX
  have E := Lib.hid hl
  clear hl
  clear m1 b1
  go_wp2_with fail
  refine (HD.out _).mono ?_
  rintro e w' ⟨rfl, b2⟩
  have M2 := Lib.hid (M1.out.later b2)
  have B2 := Lib.hid (B1.out.trans (b2.mono B1.out.size))
  clear b2 q0 q1 q2 q3
  go_wp2_with fail
  refine (Len_nil _).mono ?_
  rintro e w' ⟨rfl, rfl⟩
  go_wp2_with fail
  refine (Words_nil _).mono ?_
  rintro e w' ⟨rfl, rfl⟩
  go_wp2_with fail
  refine (Copy_nil _).mono ?_
  rintro e w' ⟨rfl, rfl⟩
  have M3 := Lib.hid (show Mem w'.drew p h n l from M2.out.later (Below.refl _ _).drew)
  have B3 := Lib.hid (show Below w.heap.size w w'.drew from B2.out.drew)
  have HMX := Lib.hid (show l.length ≤ maxLen by rw [HX.out]; simp only [maxLen]; omega)
  obtain ⟨C, hC, hmk⟩ := made_run n hn
  rw [← E.out] at hC
  have RN := Lib.hid (fun W : World => row_made W C 29 hC)
  have MA := Lib.hid (show Mem (w'.drew.alloc (.cells C 29)) p h n l from M3.out.later (ba _ _))
  have MB := Lib.hid (show Mem (w'.alloc (.cells C 29)).drew p h n l from (M2.out.later (ba _ _)).later (Below.refl _ _).drew)
  have RA := Lib.hid (show Row (w'.drew.alloc (.cells C 29)) (w'.drew.alloc (.cells C 29)).heap.size (some ⟨w'.heap.size, 0, none⟩) (flat (encZ .u64) l) from row_made w'.drew C 29 hC)
  have RB := Lib.hid (show Row (w'.alloc (.cells C 29)).drew (w'.alloc (.cells C 29)).drew.heap.size (some ⟨w'.heap.size, 0, none⟩) (flat (encZ .u64) l) from (row_made w' C 29 hC).later (Below.refl _ _).drew)
  have KA := Lib.hid (show Below w.heap.size w (w'.drew.alloc (.cells C 29)) from chain B3.out (ba _ _))
  have KB := Lib.hid (show Below w.heap.size w (w'.alloc (.cells C 29)).drew from (chain B2.out (ba _ _)).drew)
  clear hC
  go_wp2
  go_region_with (first
      | (go_at_call 11; (first | (with_reducible refine (Words_new M3.out).mono ?_) | (with_reducible refine (Words_new MA.out).mono ?_) | (with_reducible refine (Words_new MB.out).mono ?_)); rintro e w4 ⟨A4, rfl, r4, b4⟩; have R4 := Lib.hid r4; clear r4)
      | (go_at_call 10; (first | (with_reducible refine (CellsRef.Same_yes (l := l) HX.out.symm HX.out.symm (R4.out.later (ba _ _)) (RN.out w4) HMX.out).mono ?_) | (with_reducible refine (CellsRef.Same_yes (l := l) HX.out.symm HX.out.symm R4.out (RA.out.later b4) HMX.out).mono ?_) | (with_reducible refine (CellsRef.Same_yes (l := l) HX.out.symm HX.out.symm R4.out (RB.out.later b4) HMX.out).mono ?_)); rintro e w6 ⟨rfl, b6⟩)
      | (go_at_call 6; (with_reducible refine (Law06.awake_any _).mono ?_); rintro e w7 ⟨rfl, b7⟩))
  all_goals go_wp2
  all_goals go_ret
  all_goals first
    | exact ⟨rfl, chain (chain (chain (chain B3.out b4) (ba _ _)) b6) b7⟩
    | exact ⟨rfl, chain (chain (chain KA.out b4) b6) b7⟩
    | exact ⟨rfl, chain (chain (chain KB.out b4) b6) b7⟩

set_option maxHeartbeats 1000000 in
theorem walk_lo (n : Int) (hn : n < 0) (x : Int × Int × Int × Int) (w : World) :
    Calls Try.prog 4 #[.int .i64 n, .agg #[.int .i64 x.1, .int .i64 x.2.1, .int .u64 x.2.2.1, .int .u64 x.2.2.2]] w fun e w' => e = .returned (.bool true) ∧ Below w.heap.size w w' := by
  have HD := Lib.hid (do_nil x)
  have HB := Lib.hid (show Below w.heap.size w (w.alloc (.cells #[.int .i64 x.1, .int .i64 x.2.1, .int .u64 x.2.2.1, .int .u64 x.2.2.2] 33)) from (Below.refl _ _).alloc (Nat.le_refl _) _)
  obtain ⟨kd, i, a, b⟩ := x
  simp only at HD HB ⊢
  have h1 : ¬ 0 ≤ n := by omega
  have h2 : (decide (0 ≤ n) && decide (n ≤ 4096)) = false := by simp; omega
  go_enter Try.func4, Try.ntmps4
  go_wp2_with fail
  refine (New_none (Or.inl hn) _).mono ?_
  rintro e w' ⟨rfl, rfl⟩
  go_wp2_with fail
  refine (HD.out _).mono ?_
  rintro e w' ⟨rfl, b2⟩
  have B2 := Lib.hid (HB.out.trans (b2.mono HB.out.size))
  clear b2
  go_wp2_with fail
  refine (Len_nil _).mono ?_
  rintro e w' ⟨rfl, rfl⟩
  go_wp2_with fail
  refine (Words_nil _).mono ?_
  rintro e w' ⟨rfl, rfl⟩
  go_wp2_with fail
  refine (Copy_nil _).mono ?_
  rintro e w' ⟨rfl, rfl⟩
  go_wp2
  refine wp_region_after mixed (by kernel_rfl) ?_
  repeat (first | go_big_quiet_step (exact calls_after (Law06.awake_any _)) | quiet_step (exact calls_after (Law06.awake_any _)))
  refine wpQuiet_nil ?_
  intro _ hw'
  obtain ⟨pq, hw''⟩ := hw'
  subst hw''
  go_wp2
  go_ret
  exact ⟨rfl, B2.out.trans (pq.ok.mono B2.out.size)⟩
theorem walk_hi (n : Int) (hn : 4096 < n) (x : Int × Int × Int × Int) (w : World) :
    Calls Try.prog 4 #[.int .i64 n, .agg #[.int .i64 x.1, .int .i64 x.2.1, .int .u64 x.2.2.1, .int .u64 x.2.2.2]] w fun e w' => e = .returned (.bool true) ∧ Below w.heap.size w w' := by
  have HD := Lib.hid (do_nil x)
  have HB := Lib.hid (show Below w.heap.size w (w.alloc (.cells #[.int .i64 x.1, .int .i64 x.2.1, .int .u64 x.2.2.1, .int .u64 x.2.2.2] 33)) from (Below.refl _ _).alloc (Nat.le_refl _) _)
  obtain ⟨kd, i, a, b⟩ := x
  simp only at HD HB ⊢
  have h1 : ¬ n ≤ 4096 := by omega
  have h2 : (decide (0 ≤ n) && decide (n ≤ 4096)) = false := by simp; omega
  go_enter Try.func4, Try.ntmps4
  go_wp2_with fail
  refine (New_none (Or.inr hn) _).mono ?_
  rintro e w' ⟨rfl, rfl⟩
  go_wp2_with fail
  refine (HD.out _).mono ?_
  rintro e w' ⟨rfl, b2⟩
  have B2 := Lib.hid (HB.out.trans (b2.mono HB.out.size))
  clear b2
  go_wp2_with fail
  refine (Len_nil _).mono ?_
  rintro e w' ⟨rfl, rfl⟩
  go_wp2_with fail
  refine (Words_nil _).mono ?_
  rintro e w' ⟨rfl, rfl⟩
  go_wp2_with fail
  refine (Copy_nil _).mono ?_
  rintro e w' ⟨rfl, rfl⟩
  go_wp2
  refine wp_region_after mixed (by kernel_rfl) ?_
  repeat (first | go_big_quiet_step (exact calls_after (Law06.awake_any _)) | quiet_step (exact calls_after (Law06.awake_any _)))
  refine wpQuiet_nil ?_
  intro _ hw'
  obtain ⟨pq, hw''⟩ := hw'
  subst hw''
  go_wp2
  go_ret
  exact ⟨rfl, B2.out.trans (pq.ok.mono B2.out.size)⟩
theorem walk_none (n : Int) (hn : n < 0 ∨ 4096 < n) (x : Int × Int × Int × Int) (w : World) :
    Calls Try.prog 4 #[.int .i64 n, .agg #[.int .i64 x.1, .int .i64 x.2.1, .int .u64 x.2.2.1, .int .u64 x.2.2.2]] w fun e w' => e = .returned (.bool true) ∧ Below w.heap.size w w' := by
  rcases hn with h | h
  · exact walk_lo n h x w
  · exact walk_hi n h x w

theorem walk (n : Int) (x : Int × Int × Int × Int) (_ : (Lit.int .i64 n).wf = true) (_ : (Lit.int .i64 x.1).wf = true) (_ : (Lit.int .i64 x.2.1).wf = true) (_ : (Lit.int .u64 x.2.2.1).wf = true) (_ : (Lit.int .u64 x.2.2.2).wf = true) (w : World) :
    Calls Try.prog 4 #[.int .i64 n, .agg #[.int .i64 x.1, .int .i64 x.2.1, .int .u64 x.2.2.1, .int .u64 x.2.2.2]] w fun e w' => e = .returned (.bool true) ∧ Below w.heap.size w w' := by
  by_cases h : n < 0 ∨ 4096 < n
  · exact walk_none n h x w
  · obtain ⟨k, rfl⟩ : ∃ k : Nat, n = (k : Int) := ⟨n.toNat, by omega⟩
    exact walk_some k (by omega) x w
theorem laidOut : laidOutB Try.prog = true := by kernel_rfl
theorem own : ownKnob Try.prog.godebug = none := by kernel_rfl
theorem lifted (os : Os) (started : os.Started) (H : Type) (enc : TypeId × Value → H) :
    ReturnsInHanded {} Try.checked os 4 .any (Rows.cellsNewSpec.pre6 enc Try.prog Try.f4 Rows.cellsNewRow.domain false) (Rows.cellsNewSpec.post enc Try.prog Try.f4 false true false false) := by
  refine Frame.lifted (C := Try.checked) (fn := Try.f4) (tb := 4) own started (by kernel_rfl) Try.func4
    (ChangeSpec.witness6 (enc := enc) (C := Try.checked) false ⟨#[], #[.int .i64 0, .agg #[.int .i64 0, .int .i64 0, .int .u64 0, .int .u64 0]], []⟩ 8 (by kernel_rfl) (by kernel_rfl) (by kernel_rfl) (by kernel_rfl))
    rfl rfl Try.underlying4 laidOut (by kernel_rfl) (fun ds h => by match ds, h with | [_, _], _ => rfl) ?_
  intro W base args ds ps hval0 hA0 hlt
  have hval : ∀ (j : Nat) t v, Try.f4.params[j]? = some t → args[j]? = some v → Value.okWide Try.prog W .any base t v := hval0
  have hA : DataW.TrodAll enc Try.prog W 0 (fun _ => true) true Try.f4.params.toList args.toList ds ps := hA0
  rw [Try.params4] at hA hval
  obtain ⟨v0, vs0, d0, ds0, p0, q0, hargs, rfl, rfl, h0, r0⟩ := trodAll_cons hA
  obtain ⟨v1, vs1, d1, ds1, p1, q1, rfl, rfl, rfl, h1, r1⟩ := trodAll_cons r0
  obtain ⟨rfl, rfl, rfl⟩ := trodAll_nil r1
  obtain rfl : args = #[v0, v1] := by cases args; simp_all
  obtain ⟨a0, rfl, _, _, w0⟩ := open_int Try.underlying3 (hval 0 3 v0 rfl rfl) h0
  obtain ⟨x1, rfl, w1_0, w1_1, w1_2, w1_3⟩ := Open.open_four_ints Try.underlying33 (by kernel_rfl) (by kernel_rfl) Try.underlying3 Try.underlying3 Try.underlying29 Try.underlying29 (hval 1 33 v1 rfl rfl) h1
  refine (walk a0 x1 w0 w1_0 w1_1 w1_2 w1_3 W).mono fun e W' h => ?_
  exact h

theorem over : Rows.cellsNewRow.holds Try.pinned (OpenSpec.ofChange Rows.cellsNewSpec) :=
  OpenClaim.holds_of_wide 4 Try.f4 rfl rfl rfl rfl rfl rfl rfl ⟨rfl, rfl, rfl, rfl, rfl⟩ rfl rfl rfl rfl rfl (by kernel_rfl) Try.func4 (by kernel_rfl)
    (of_decide_eq_true (by kernel_rfl)) (by unfold Func.isWrapper; first | (rw [if_pos (by decide +kernel)]; kernel_rfl) | (rw [if_neg (by decide +kernel)]; exact ⟨rfl, rfl⟩))
    (fun os started H enc _ => lifted os started H enc)

theorem proved : Rows.CellsNewSaid := over
#print axioms proved
end Go.Proofs.Ytgcpjldchbffhaa.CellsNew
