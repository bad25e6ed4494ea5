/- Law 20's example. -/
import Derived.Test.YtjefjkpomohpiaaGreatDoorLinkTell
import Derived.Test.YtjefjkpomohpiaaGreatDoorTaskEq
namespace Go.Proofs.YtjefjkpomohpiaaGreatDoor.Law20
set_option maxRecDepth 20000
open Go.ChangeShapes Go.WideShapes Go.ChangeAt Go.RowKit CM DM PM KM LiM Runs Lay Plan Go.Proofs.YtjefjkpomohpiaaGreatDoor.Task
open Go.Proofs.YtjefjkpomohpiaaGreatDoor.Link (Links Link_any Link_next Link_tell)
set_option linter.unusedVariables false
set_option linter.unusedSimpArgs false

theorem wf_u64 {a : Int} (h : (Lit.int .u64 a).wf = true) : 0 ≤ a ∧ a < 18446744073709551616 := by
  simp [Lit.wf, IntKind.min, IntKind.max, IntKind.signed, IntKind.bits] at h; omega
theorem wf_i64 {a : Int} (h : (Lit.int .i64 a).wf = true) : -9223372036854775808 ≤ a ∧ a ≤ 9223372036854775807 := by
  simp [Lit.wf, IntKind.min, IntKind.max, IntKind.signed, IntKind.bits] at h; omega
theorem ba (w : World) (o : Obj) : Below w.heap.size w (w.alloc o) := (Below.refl _ _).alloc (Nat.le_refl _) _
theorem chain {w a b : World} (h : Below w.heap.size w a) (k : Below a.heap.size a b) : Below w.heap.size w b := h.trans (k.mono h.size)
/-- A box of five words in a new block, later. -/
theorem five_later {w w' : World} {v0 v1 v2 v3 v4 : Value} {t : TypeId} {R : Nat → Prop} (ho : Only R (w.alloc (.cells #[v0, v1, v2, v3, v4] t)) w') (hr : ¬ R w.heap.size) :
    w'.cell? ⟨w.heap.size, 0, none⟩ = some v0 ∧ w'.cell? ⟨w.heap.size, 1, none⟩ = some v1 ∧ w'.cell? ⟨w.heap.size, 2, none⟩ = some v2 ∧ w'.cell? ⟨w.heap.size, 3, none⟩ = some v3 ∧ w'.cell? ⟨w.heap.size, 4, none⟩ = some v4 := by
  have hb := ho.heap (new_heap w (.cells #[v0, v1, v2, v3, v4] t)) hr
  exact ⟨(cell_heap hb 0).1, (cell_heap hb 1).1, (cell_heap hb 2).1, (cell_heap hb 3).1, (cell_heap hb 4).1⟩
/-- The example's linker, behind one word, and behind two. -/
def ex1 : LiM.St := linkT 1 0 0 1 (LiM.begin 1 0) 0
def ex2 : LiM.St := linkT 1 0 0 1 ex1 0
theorem ex1_is : ex1 = ⟨2, 0, ⟨0, 0, 0, 0, 0, [0], [0]⟩, [0], [0]⟩ := by
  unfold ex1 LiM.begin anew
  rw [linkT_1, desc_on (by decide), seekT_1 (by decide), reach_none rfl]
  unfold find
  rw [desc_end (by decide), keep_done rfl, goOn_on (by decide)]
  rfl
theorem ex2_is : ex2 = ⟨3, 1, ⟨0, 0, 0, 0, 0, [0], [0]⟩, [0], [0]⟩ := by
  unfold ex2
  rw [ex1_is, linkT_2, goOn_end (by decide)]
  rfl
theorem ex_a : linkA 1 1 2 ex1 = some (2, nextI 1 1 1 0, 0, 0, 2) := by rw [ex1_is, linkA_2]; rfl
theorem ex_b : linkA 1 1 2 ex2 = some (3, nextI 1 1 0 0, 0, 2, 0) := by rw [ex2_is, linkA_3]; rfl
set_option maxHeartbeats 1000000 in
theorem awake_any (w : World) : Calls Tryz.prog 7 #[] w fun e w' => e = .returned (.bool true) ∧ Below w.heap.size w w' := by
  have HB0 := Lib.hid (box_below w (.cells #[.int .i64 1, .int .i64 1, .int .i64 1, .int .u64 0] 24))
  have HC := Lib.hid (box4 w (.int .i64 1) (.int .i64 1) (.int .i64 1) (.int .u64 0) 24)
  have HOF := Lib.hid (show ∀ W : World, Calls Tryz.prog 26 #[.int .u64 0, .int .i64 1] W fun e w' => e = .returned (.int .u64 2) ∧ W = w' from fun W => Refer.Of_any 0 1 (by decide) W)
  obtain ⟨c_0, c_1, c_2, c_3⟩ := HC.out
  go_enter Tryz.func7, Tryz.ntmps7
  go_wp2_with fail
  refine (HOF.out _).mono ?_
  rintro e w' ⟨rfl, rfl⟩
  go_wp2_with fail
  refine (Link_any 1 1 1 0 2 0 0 1 (by decide) ⟨by decide, by decide⟩ _).mono ?_
  rintro e w1 ⟨p, S1, rfl, l1, k1, b1⟩
  have HL1 := Lib.hid l1
  have HS1 := Lib.hid (show ∀ k, S1 k → w.heap.size < k from fun k e => by have := (k1 k e).1; simp only [World.size_alloc] at this; omega)
  have HB1 := Lib.hid (show Below (w.alloc (.cells #[.int .i64 1, .int .i64 1, .int .i64 1, .int .u64 0] 24)).heap.size (w.alloc (.cells #[.int .i64 1, .int .i64 1, .int .i64 1, .int .u64 0] 24)) w1 from b1)
  clear l1 k1 b1 c_0 c_1 c_2 c_3
  go_wp2_with fail
  refine (Link_tell HL1.out (by decide) (show Word 0 from ⟨by decide, by decide⟩)).mono ?_
  rintro e w2 ⟨rfl, S2, l2, o2, k2⟩
  change Links w2 p S2 1 1 1 0 2 0 0 1 1 ex1 at l2
  have HS2 := Lib.hid (show ∀ k, S2 k → w.heap.size < k from fun k e => (k2 k e).elim (HS1.out k) fun z => by have := HB1.out.size; simp only [World.size_alloc] at this; omega)
  have HB2 := Lib.hid (show Below (w.alloc (.cells #[.int .i64 1, .int .i64 1, .int .i64 1, .int .u64 0] 24)).heap.size (w.alloc (.cells #[.int .i64 1, .int .i64 1, .int .i64 1, .int .u64 0] 24)) w2 from HB1.out.trans (o2.below HB1.out.size fun k e => by have := HS1.out k e; simp only [World.size_alloc]; omega))
  have HL2 := Lib.hid l2
  have HNA := Lib.hid (Link_next l2)
  have HSZ := Lib.hid l2.2.2.2.1
  rw [ex_a] at HNA
  clear l2 o2 k2
  generalize hi : nextI 1 1 1 0 = i at HNA
  go_wp2_with fail
  refine HNA.out.mono ?_
  rintro e w3 ⟨rfl, b3⟩
  simp only [Option.getD_some, Option.isSome_some]
  have HB3 := Lib.hid (show Below (w.alloc (.cells #[.int .i64 1, .int .i64 1, .int .i64 1, .int .u64 0] 24)).heap.size (w.alloc (.cells #[.int .i64 1, .int .i64 1, .int .i64 1, .int .u64 0] 24)) (w3.alloc (.cells #[.int .i64 2, .int .i64 i, .int .u64 0, .int .u64 0, .int .u64 2] 46)) from chain (chain HB2.out b3) (ba _ _))
  have HL3 := Lib.hid (HL2.out.later (chain b3 (ba _ (.cells #[.int .i64 2, .int .i64 i, .int .u64 0, .int .u64 0, .int .u64 2] 46))))
  have HZ3 := Lib.hid b3.size
  clear b3
  go_wp2_with fail
  refine (Link_tell HL3.out (by decide) (show Word 0 from ⟨by decide, by decide⟩)).mono ?_
  rintro e w4 ⟨rfl, S4, l4, o4, k4⟩
  change Links w4 p S4 1 1 1 0 2 0 0 1 2 ex2 at l4
  have HB4 := Lib.hid (show Below (w.alloc (.cells #[.int .i64 1, .int .i64 1, .int .i64 1, .int .u64 0] 24)).heap.size (w.alloc (.cells #[.int .i64 1, .int .i64 1, .int .i64 1, .int .u64 0] 24)) w4 from HB3.out.trans (o4.below HB3.out.size fun k e => by have := HS2.out k e; simp only [World.size_alloc]; omega))
  have HA4 := Lib.hid (five_later o4 (fun e => by have := HSZ.out _ e; have := HZ3.out; omega))
  have HNB := Lib.hid (Link_next l4)
  rw [ex_b] at HNB
  clear l4 o4 k4
  generalize hj : nextI 1 1 0 0 = j at HNB
  go_wp2_with fail
  refine HNB.out.mono ?_
  rintro e w5 ⟨rfl, b5⟩
  simp only [Option.getD_some, Option.isSome_some]
  have HB5 := Lib.hid (chain HB4.out (chain b5 (ba _ (.cells #[.int .i64 3, .int .i64 j, .int .u64 0, .int .u64 2, .int .u64 0] 46))))
  have hb5 := chain b5 (ba _ (.cells #[.int .i64 3, .int .i64 j, .int .u64 0, .int .u64 2, .int .u64 0] 46))
  obtain ⟨x0, x1, x2, x3, x4⟩ := HA4.out
  have X0 := fun p : After (w5.alloc (.cells #[.int .i64 3, .int .i64 j, .int .u64 0, .int .u64 2, .int .u64 0] 46)) => p.cell (cell_later hb5 x0)
  have X1 := fun p : After (w5.alloc (.cells #[.int .i64 3, .int .i64 j, .int .u64 0, .int .u64 2, .int .u64 0] 46)) => p.cell (cell_later hb5 x1)
  have X2 := fun p : After (w5.alloc (.cells #[.int .i64 3, .int .i64 j, .int .u64 0, .int .u64 2, .int .u64 0] 46)) => p.cell (cell_later hb5 x2)
  have X3 := fun p : After (w5.alloc (.cells #[.int .i64 3, .int .i64 j, .int .u64 0, .int .u64 2, .int .u64 0] 46)) => p.cell (cell_later hb5 x3)
  have X4 := fun p : After (w5.alloc (.cells #[.int .i64 3, .int .i64 j, .int .u64 0, .int .u64 2, .int .u64 0] 46)) => p.cell (cell_later hb5 x4)
  obtain ⟨y0, y1, y2, y3, y4⟩ := five_later (Only.refl (fun _ => False) (w5.alloc (.cells #[.int .i64 3, .int .i64 j, .int .u64 0, .int .u64 2, .int .u64 0] 46))) id
  have Y0 := fun p : After (w5.alloc (.cells #[.int .i64 3, .int .i64 j, .int .u64 0, .int .u64 2, .int .u64 0] 46)) => p.cell y0
  have Y1 := fun p : After (w5.alloc (.cells #[.int .i64 3, .int .i64 j, .int .u64 0, .int .u64 2, .int .u64 0] 46)) => p.cell y1
  have Y2 := fun p : After (w5.alloc (.cells #[.int .i64 3, .int .i64 j, .int .u64 0, .int .u64 2, .int .u64 0] 46)) => p.cell y2
  have Y3 := fun p : After (w5.alloc (.cells #[.int .i64 3, .int .i64 j, .int .u64 0, .int .u64 2, .int .u64 0] 46)) => p.cell y3
  have Y4 := fun p : After (w5.alloc (.cells #[.int .i64 3, .int .i64 j, .int .u64 0, .int .u64 2, .int .u64 0] 46)) => p.cell y4
  obtain ⟨c_0, c_1, c_2, c_3⟩ := box4_later (by have h := HB5.out; rwa [World.size_alloc] at h)
  have C_0 := fun p : After (w5.alloc (.cells #[.int .i64 3, .int .i64 j, .int .u64 0, .int .u64 2, .int .u64 0] 46)) => p.cell c_0
  have C_1 := fun p : After (w5.alloc (.cells #[.int .i64 3, .int .i64 j, .int .u64 0, .int .u64 2, .int .u64 0] 46)) => p.cell c_1
  have C_2 := fun p : After (w5.alloc (.cells #[.int .i64 3, .int .i64 j, .int .u64 0, .int .u64 2, .int .u64 0] 46)) => p.cell c_2
  have C_3 := fun p : After (w5.alloc (.cells #[.int .i64 3, .int .i64 j, .int .u64 0, .int .u64 2, .int .u64 0] 46)) => p.cell c_3
  have HP1 := Lib.hid (fun W => Plan.Next_any 1 1 1 0 1 0 W)
  have HP2 := Lib.hid (fun W => Plan.Next_any 1 1 1 0 0 0 W)
  have hi2 : nextI (1 : Int) 1 1 0 = i := hi
  rw [hi] at HP1
  rw [hj] at HP2
  have N1 := fun W => eqlD (2, i, 0, 0, 2) (2, i, 0, 0, 2) W
  have N2 := fun W => eqlD (3, j, 0, 2, 0) (3, j, 0, 2, 0) W
  simp only [decide_true] at N1 N2
  have HEND := Lib.hid (show ∀ W, Below (w5.alloc (.cells #[.int .i64 3, .int .i64 j, .int .u64 0, .int .u64 2, .int .u64 0] 46)).heap.size (w5.alloc (.cells #[.int .i64 3, .int .i64 j, .int .u64 0, .int .u64 2, .int .u64 0] 46)) W → Below w.heap.size w W from fun W hb => HB0.out.trans ((chain HB5.out hb).mono HB0.out.size))
  clear x0 x1 x2 x3 x4 y0 y1 y2 y3 y4 c_0 c_1 c_2 c_3 hb5 b5 hi hi2 hj
  go_wp2
  refine wp_region_after mixed (by kernel_rfl) ?_
  repeat (first | go_big_quiet_step ((first | (with_reducible exact calls_after (HP1.out _)) | (with_reducible exact calls_after (HP2.out _)))) | quiet_step ((first | (with_reducible exact calls_after (HP1.out _)) | (with_reducible exact calls_after (HP2.out _)))))
  refine wpQuiet_nil ?_
  intro _ hw'
  obtain ⟨pq, hw''⟩ := hw'
  subst hw''
  go_wp2
  go_ret
  exact ⟨rfl, HEND.out _ pq.ok⟩
end Go.Proofs.YtjefjkpomohpiaaGreatDoor.Law20
