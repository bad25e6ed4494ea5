import Derived.Test.YtickghidajpbnaaGreatDoorSettleOutsAllP16
import Derived.Test.YtickghidajpbnaaGreatDoorSettleOutsAllP18
/- Law 23's example. -/
namespace Go.Proofs.YtickghidajpbnaaGreatDoor.Law23
set_option maxRecDepth 20000
open Go.ChangeShapes Go.WideShapes Go.ChangeAt Go.RowKit CM DM PM KM StM Runs Lay Plan Go.Proofs.YtickghidajpbnaaGreatDoor.Task
open Go.Proofs.YtickghidajpbnaaGreatDoor.Stl (Settles Settle_any Settle_next Settle_tell Retired_any)
set_option linter.unusedVariables false
set_option linter.unusedSimpArgs false

theorem wf_u64 {a : Int} (h : (Lit.int .u64 a).wf = true) : 0 ≤ a ∧ a < 18446744073709551616 := by
  simp [Lit.wf, IntKind.min, IntKind.max, IntKind.signed, IntKind.bits] at h; omega
theorem wf_i64 {a : Int} (h : (Lit.int .i64 a).wf = true) : -9223372036854775808 ≤ a ∧ a ≤ 9223372036854775807 := by
  simp [Lit.wf, IntKind.min, IntKind.max, IntKind.signed, IntKind.bits] at h; omega
theorem ba (w : World) (o : Obj) : Below w.heap.size w (w.alloc o) := (Below.refl _ _).alloc (Nat.le_refl _) _
theorem chain {w a b : World} (h : Below w.heap.size w a) (k : Below a.heap.size a b) : Below w.heap.size w b := h.trans (k.mono h.size)
/-- A box of five words in a new block, later. -/
theorem five_later {w w' : World} {v0 v1 v2 v3 v4 : Value} {t : TypeId} {R : Nat → Prop} (ho : Only R (w.alloc (.cells #[v0, v1, v2, v3, v4] t)) w') (hr : ¬ R w.heap.size) :
    w'.cell? ⟨w.heap.size, 0, none⟩ = some v0 ∧ w'.cell? ⟨w.heap.size, 1, none⟩ = some v1 ∧ w'.cell? ⟨w.heap.size, 2, none⟩ = some v2 ∧ w'.cell? ⟨w.heap.size, 3, none⟩ = some v3 ∧ w'.cell? ⟨w.heap.size, 4, none⟩ = some v4 := by
  have hb := ho.heap (new_heap w (.cells #[v0, v1, v2, v3, v4] t)) hr
  exact ⟨(cell_heap hb 0).1, (cell_heap hb 1).1, (cell_heap hb 2).1, (cell_heap hb 3).1, (cell_heap hb 4).1⟩
/-- The example's settler, behind its one word. -/
def ex1 : StM.St := settleT 1 0 0 StM.new 2
theorem ex1_is : ex1 = ⟨0, ⟨0, 0, 0, 0, 0, [], []⟩, 0, false⟩ := by
  unfold ex1 StM.new
  exact settleT_1n (by decide)
theorem ex_a : settleA 1 1 2 StM.new = some (4, atI 1 1 1 4, 18446744073709551615, 0, 2) := by unfold StM.new; rw [settleA_1]; rfl
theorem ex_b : settleA 1 1 2 ex1 = none := by rw [ex1_is, settleA_0]
set_option maxHeartbeats 1000000 in
theorem awake_any (w : World) : Calls Tryz.prog 7 #[] w fun e w' => e = .returned (.bool true) ∧ Below w.heap.size w w' := by
  have HB0 := Lib.hid (box_below w (.cells #[.int .i64 1, .int .i64 1, .int .i64 1, .int .u64 0] 24))
  have HC := Lib.hid (box4 w (.int .i64 1) (.int .i64 1) (.int .i64 1) (.int .u64 0) 24)
  have HOF := Lib.hid (show ∀ W : World, Calls Tryz.prog 25 #[.int .u64 0, .int .i64 1] W fun e w' => e = .returned (.int .u64 2) ∧ W = w' from fun W => Refer.Of_any 0 1 (by decide) W)
  obtain ⟨c_0, c_1, c_2, c_3⟩ := HC.out
  go_enter Tryz.func7, Tryz.ntmps7
  have HD1 := Lib.hid (show Below (w.alloc (.cells #[.int .i64 1, .int .i64 1, .int .i64 1, .int .u64 0] 24)).heap.size (w.alloc (.cells #[.int .i64 1, .int .i64 1, .int .i64 1, .int .u64 0] 24)) (w.alloc (.cells #[.int .i64 1, .int .i64 1, .int .i64 1, .int .u64 0] 24)).drew from (Below.refl _ _).drew)
  have HK := Lib.hid (show ∀ W, Below (w.alloc (.cells #[.int .i64 1, .int .i64 1, .int .i64 1, .int .u64 0] 24)).heap.size (w.alloc (.cells #[.int .i64 1, .int .i64 1, .int .i64 1, .int .u64 0] 24)) W → W.cell? ⟨w.heap.size, 0, none⟩ = some (.int .i64 1) ∧ W.cell? ⟨w.heap.size, 1, none⟩ = some (.int .i64 1) ∧ W.cell? ⟨w.heap.size, 2, none⟩ = some (.int .i64 1) ∧ W.cell? ⟨w.heap.size, 3, none⟩ = some (.int .u64 0) from fun W hb => box4_later (by rwa [World.size_alloc] at hb))
  go_upto_region 2 with fail
  go_region_held3 (fun W => W.cell? ⟨w.heap.size, 0, none⟩ = some (.int .i64 1) ∧ W.cell? ⟨w.heap.size, 1, none⟩ = some (.int .i64 1) ∧ W.cell? ⟨w.heap.size, 2, none⟩ = some (.int .i64 1) ∧ W.cell? ⟨w.heap.size, 3, none⟩ = some (.int .u64 0))
    ((first | (with_reducible exact HK.out _ HD1.out) | (with_reducible assumption) | (with_reducible exact HK.out _ HB1.out)))
    (first
      | (go_at_call 25; refine (HOF.out _).mono ?_; rintro e w' ⟨rfl, rfl⟩)
      | (go_at_call 15; refine (Settle_any 1 1 1 0 2 0 0 (by decide) ⟨by decide, by decide⟩ _).mono ?_; rintro e w1 ⟨p, S1, rfl, l1, k1, b1⟩; have HB1 := Lib.hid (show Below (w.alloc (.cells #[.int .i64 1, .int .i64 1, .int .i64 1, .int .u64 0] 24)).heap.size (w.alloc (.cells #[.int .i64 1, .int .i64 1, .int .i64 1, .int .u64 0] 24)) w1 from HD1.out.trans b1)))
  have HS1 := Lib.hid (show ∀ k, S1 k → w.heap.size < k from fun k e => by have := (k1 k e).1; simp only [World.drew, World.size_alloc] at this; omega)
  have HL1 := Lib.hid l1
  have HSZ := Lib.hid l1.2.2.2.1
  have HNA := Lib.hid (Settle_next l1)
  rw [ex_a] at HNA
  clear l1 k1 b1 c_0 c_1 c_2 c_3
  generalize hi : atI 1 1 1 4 = i at HNA
  go_wp2_with fail
  refine HNA.out.mono ?_
  rintro e w3 ⟨rfl, b3⟩
  simp only [Option.getD_some, Option.isSome_some]
  have HB3 := Lib.hid (show Below (w.alloc (.cells #[.int .i64 1, .int .i64 1, .int .i64 1, .int .u64 0] 24)).heap.size (w.alloc (.cells #[.int .i64 1, .int .i64 1, .int .i64 1, .int .u64 0] 24)) (w3.alloc (.cells #[.int .i64 4, .int .i64 i, .int .u64 18446744073709551615, .int .u64 0, .int .u64 2] 60)) from chain (chain HB1.out b3) (ba _ _))
  have HL3 := Lib.hid (HL1.out.later (chain b3 (ba _ (.cells #[.int .i64 4, .int .i64 i, .int .u64 18446744073709551615, .int .u64 0, .int .u64 2] 60))))
  have HZ3 := Lib.hid b3.size
  clear b3
  go_wp2_with fail
  refine (Settle_tell HL3.out (by decide) (show Word 2 from ⟨by decide, by decide⟩)).mono ?_
  rintro e w4 ⟨rfl, S4, l4, o4, k4⟩
  change Settles w4 p S4 1 1 1 0 2 0 0 1 ex1 at l4
  have HB4 := Lib.hid (show Below (w.alloc (.cells #[.int .i64 1, .int .i64 1, .int .i64 1, .int .u64 0] 24)).heap.size (w.alloc (.cells #[.int .i64 1, .int .i64 1, .int .i64 1, .int .u64 0] 24)) w4 from HB3.out.trans (o4.below HB3.out.size fun k e => by have := HS1.out k e; simp only [World.size_alloc]; omega))
  have HA4 := Lib.hid (five_later o4 (fun e => by have := HSZ.out _ e; have := HZ3.out; omega))
  have HL4 := Lib.hid l4
  have HNB := Lib.hid (Settle_next l4)
  rw [ex_b] at HNB
  clear l4 o4 k4
  go_wp2_with fail
  refine HNB.out.mono ?_
  rintro e w5 ⟨rfl, b5⟩
  simp only [Option.getD_none, Option.isSome_none]
  have hb5 := chain b5 (ba _ (.cells #[.int .i64 0, .int .i64 0, .int .u64 0, .int .u64 0, .int .u64 0] 60))
  have HB5 := Lib.hid (chain HB4.out hb5)
  have HA5 := Lib.hid hb5
  have HR5 := Lib.hid (Retired_any (HL4.out.later hb5))
  rw [ex1_is] at HR5
  simp only at HR5
  rw [if_neg (by simp), if_neg (by simp)] at HR5
  clear b5 hb5
  go_wp2_with fail
  refine HR5.out.mono ?_
  rintro e w6 ⟨rfl, b6⟩
  have hb6 := chain b6 (ba _ (.cells #[.int .u64 0, .int .u64 0] 47))
  have HB6 := Lib.hid (chain HB5.out hb6)
  have hb7 := chain HA5.out hb6
  obtain ⟨x0, x1, x2, x3, x4⟩ := HA4.out
  have X0 := fun p : After (w6.alloc (.cells #[.int .u64 0, .int .u64 0] 47)) => p.cell (cell_later hb7 x0)
  have X1 := fun p : After (w6.alloc (.cells #[.int .u64 0, .int .u64 0] 47)) => p.cell (cell_later hb7 x1)
  have X2 := fun p : After (w6.alloc (.cells #[.int .u64 0, .int .u64 0] 47)) => p.cell (cell_later hb7 x2)
  have X3 := fun p : After (w6.alloc (.cells #[.int .u64 0, .int .u64 0] 47)) => p.cell (cell_later hb7 x3)
  have X4 := fun p : After (w6.alloc (.cells #[.int .u64 0, .int .u64 0] 47)) => p.cell (cell_later hb7 x4)
  obtain ⟨c_0, c_1, c_2, c_3⟩ := box4_later (by have h := HB6.out; rwa [World.size_alloc] at h)
  have C_0 := fun p : After (w6.alloc (.cells #[.int .u64 0, .int .u64 0] 47)) => p.cell c_0
  have C_1 := fun p : After (w6.alloc (.cells #[.int .u64 0, .int .u64 0] 47)) => p.cell c_1
  have C_2 := fun p : After (w6.alloc (.cells #[.int .u64 0, .int .u64 0] 47)) => p.cell c_2
  have C_3 := fun p : After (w6.alloc (.cells #[.int .u64 0, .int .u64 0] 47)) => p.cell c_3
  have HP1 := Lib.hid (fun W => Plan.Hold_any 1 1 1 0 1 W)
  rw [hi] at HP1
  have N1 := fun W => eqlD (4, i, 18446744073709551615, 0, 2) (4, i, 18446744073709551615, 0, 2) W
  simp only [decide_true] at N1
  have HEND := Lib.hid (show ∀ W, Below (w6.alloc (.cells #[.int .u64 0, .int .u64 0] 47)).heap.size (w6.alloc (.cells #[.int .u64 0, .int .u64 0] 47)) W → Below w.heap.size w W from fun W hb => HB0.out.trans ((chain HB6.out hb).mono HB0.out.size))
  clear x0 x1 x2 x3 x4 c_0 c_1 c_2 c_3 hb6 hb7 b6 hi
  go_wp2
  refine wp_region_after mixed (by kernel_rfl) ?_
  repeat (first | go_big_quiet_step ((with_reducible exact calls_after (HP1.out _))) | quiet_step ((with_reducible exact calls_after (HP1.out _))))
  refine wpQuiet_nil ?_
  intro _ hw'
  obtain ⟨pq, hw''⟩ := hw'
  subst hw''
  go_wp2
  go_ret
  exact ⟨rfl, HEND.out _ pq.ok⟩
end Go.Proofs.YtickghidajpbnaaGreatDoor.Law23
