/- Law 22's example. -/
import Derived.Test.YtpefngpmbladeaaDoorMarkTell
import Derived.Test.YtpefngpmbladeaaDoorTaskEq
import Derived.Deep.DeepCutAuto
import Derived.Deep.RegionHeld3
namespace Go.Proofs.YtpefngpmbladeaaDoor.Law22
set_option maxRecDepth 20000
open Go.ChangeShapes Go.WideShapes Go.ChangeAt Go.RowKit CM DM PM KM MkM Runs Lay Plan Go.Proofs.YtpefngpmbladeaaDoor.Task
open Go.Proofs.YtpefngpmbladeaaDoor.Mk (Marks Mark_any Mark_next Mark_tell)
set_option linter.unusedVariables false
set_option linter.unusedSimpArgs false

theorem wf_u64 {a : Int} (h : (Lit.int .u64 a).wf = true) : 0 ≤ a ∧ a < 18446744073709551616 := by
  simp [Lit.wf, IntKind.min, IntKind.max, IntKind.signed, IntKind.bits] at h; omega
theorem wf_i64 {a : Int} (h : (Lit.int .i64 a).wf = true) : -9223372036854775808 ≤ a ∧ a ≤ 9223372036854775807 := by
  simp [Lit.wf, IntKind.min, IntKind.max, IntKind.signed, IntKind.bits] at h; omega
theorem plan4 {w w' : World} {N : Nat} {R : Nat → Prop} {T S L G : Int} (h : w.cell? ⟨N, 0, none⟩ = some (.int .i64 T) ∧ w.cell? ⟨N, 1, none⟩ = some (.int .i64 S) ∧ w.cell? ⟨N, 2, none⟩ = some (.int .i64 L) ∧ w.cell? ⟨N, 3, none⟩ = some (.int .u64 G)) (ho : Only R w w') (hr : ¬ R N) :
    w'.cell? ⟨N, 0, none⟩ = some (.int .i64 T) ∧ w'.cell? ⟨N, 1, none⟩ = some (.int .i64 S) ∧ w'.cell? ⟨N, 2, none⟩ = some (.int .i64 L) ∧ w'.cell? ⟨N, 3, none⟩ = some (.int .u64 G) :=
  ⟨ho.cell h.1 hr, ho.cell h.2.1 hr, ho.cell h.2.2.1 hr, ho.cell h.2.2.2 hr⟩
theorem ba (w : World) (o : Obj) : Below w.heap.size w (w.alloc o) := (Below.refl _ _).alloc (Nat.le_refl _) _
theorem chain {w a b : World} (h : Below w.heap.size w a) (k : Below a.heap.size a b) : Below w.heap.size w b := h.trans (k.mono h.size)
/-- A box of five words in a new block, later. -/
theorem five_later {w w' : World} {v0 v1 v2 v3 v4 : Value} {t : TypeId} {R : Nat → Prop} (ho : Only R (w.alloc (.cells #[v0, v1, v2, v3, v4] t)) w') (hr : ¬ R w.heap.size) :
    w'.cell? ⟨w.heap.size, 0, none⟩ = some v0 ∧ w'.cell? ⟨w.heap.size, 1, none⟩ = some v1 ∧ w'.cell? ⟨w.heap.size, 2, none⟩ = some v2 ∧ w'.cell? ⟨w.heap.size, 3, none⟩ = some v3 ∧ w'.cell? ⟨w.heap.size, 4, none⟩ = some v4 := by
  have hb := ho.heap (new_heap w (.cells #[v0, v1, v2, v3, v4] t)) hr
  exact ⟨(cell_heap hb 0).1, (cell_heap hb 1).1, (cell_heap hb 2).1, (cell_heap hb 3).1, (cell_heap hb 4).1⟩
theorem made {w W : World} {p : Nat} (hp : (w.alloc (.cells #[.int .i64 1, .int .i64 1, .int .i64 3, .int .u64 0] 24)).drew.heap.size ≤ p) (hb : Below (w.alloc (.cells #[.int .i64 1, .int .i64 1, .int .i64 3, .int .u64 0] 24)).drew.heap.size (w.alloc (.cells #[.int .i64 1, .int .i64 1, .int .i64 3, .int .u64 0] 24)).drew W) : w.heap.size + 1 ≤ p ∧ Below (w.alloc (.cells #[.int .i64 1, .int .i64 1, .int .i64 3, .int .u64 0] 24)).heap.size (w.alloc (.cells #[.int .i64 1, .int .i64 1, .int .i64 3, .int .u64 0] 24)) W :=
  ⟨by simp only [World.drew, World.size_alloc] at hp; exact hp, (Below.refl _ _).drew.trans hb⟩
theorem lefts : leftI 2 3 = 2 := by decide
theorem ex_a : markA 1 3 2 ⟨2, 0, 0⟩ = some (1, nextI 1 3 1 1, 0, 0, 2) := markA_look (by decide)
theorem ex_1 : markT ⟨2, 0, 0⟩ 8 = ⟨2, 1, 8⟩ := markT_to (by decide) (by decide)
theorem ex_b : markA 1 3 2 ⟨2, 1, 8⟩ = some (3, nextI 1 3 1 1, 8, 9, 2) := markA_turn (by decide)
theorem ex_2 : markT ⟨2, 1, 8⟩ 8 = ⟨1, 0, 8⟩ := markT_won (by decide) rfl
theorem ex_c : markA 1 3 2 ⟨1, 0, 8⟩ = some (1, nextI 1 3 1 0, 0, 0, 2) := markA_look (by decide)
set_option maxHeartbeats 1000000 in
theorem awake_any (w : World) : Calls Tryd.prog 5 #[] w fun e w' => e = .returned (.bool true) ∧ Below w.heap.size w w' := by
  have HB0 := Lib.hid (box_below w (.cells #[.int .i64 1, .int .i64 1, .int .i64 3, .int .u64 0] 24))
  have HC := Lib.hid (box4 w (.int .i64 1) (.int .i64 1) (.int .i64 3) (.int .u64 0) 24)
  have HOF := Lib.hid (show ∀ W : World, Calls Tryd.prog 7 #[.int .u64 0, .int .i64 1] W fun e w' => e = .returned (.int .u64 2) ∧ W = w' from fun W => Refer.Of_any 0 1 (by decide) W)
  obtain ⟨c_0, c_1, c_2, c_3⟩ := HC.out
  go_enter Tryd.func5, Tryd.ntmps5
  go_upto_region 2 with fail
  go_cut [2] (fun s2 wx => ∃ p, s2 = .pointer (some ⟨p, 0, none⟩) ∧ Marks wx p 1 1 3 0 2 ⟨2, 0, 0⟩ ∧ w.heap.size + 1 ≤ p ∧ Below (w.alloc (.cells #[.int .i64 1, .int .i64 1, .int .i64 3, .int .u64 0] 24)).heap.size (w.alloc (.cells #[.int .i64 1, .int .i64 1, .int .i64 3, .int .u64 0] 24)) wx)
  case first =>
    have HS0 := Lib.hid (show (fun W : World => W.cell? ⟨w.heap.size, 0, none⟩ = some (.int .i64 1) ∧ W.cell? ⟨w.heap.size, 1, none⟩ = some (.int .i64 1) ∧ W.cell? ⟨w.heap.size, 2, none⟩ = some (.int .i64 3) ∧ W.cell? ⟨w.heap.size, 3, none⟩ = some (.int .u64 0)) (w.alloc (.cells #[.int .i64 1, .int .i64 1, .int .i64 3, .int .u64 0] 24)).drew from HC.out)
    go_region_held3 (fun W => W.cell? ⟨w.heap.size, 0, none⟩ = some (.int .i64 1) ∧ W.cell? ⟨w.heap.size, 1, none⟩ = some (.int .i64 1) ∧ W.cell? ⟨w.heap.size, 2, none⟩ = some (.int .i64 3) ∧ W.cell? ⟨w.heap.size, 3, none⟩ = some (.int .u64 0))
      ((first | (with_reducible exact HS0.out) | (with_reducible assumption) | (with_reducible exact HS2.out)))
      (first
        | (go_at_call 7; refine (HOF.out _).mono ?_; rintro e w2 ⟨rfl, rfl⟩)
        | (go_at_call 6; refine (Mark_any 1 1 3 0 2 2 (by decide) ⟨by decide, by decide⟩ _).mono ?_; rintro e w2 ⟨p, rfl, m2, p2, b2⟩; have HM2 := Lib.hid m2; have HQ2 := Lib.hid (made p2 b2); have HS2 := Lib.hid (box4_later (by have h := HQ2.out.2; rwa [World.size_alloc] at h)); clear m2 p2 b2))
    all_goals go_wp2_with fail
    all_goals go_meet
    all_goals (case rel => exact ⟨_, rfl, lefts ▸ HM2.out, HQ2.out⟩)
  obtain ⟨p, rfl, m1, p1, b1⟩ := hcut
  rename_i w1
  have HM1 := Lib.hid m1
  have HP1 := Lib.hid p1
  have HB1 := Lib.hid b1
  have HNA := Lib.hid (Mark_next m1)
  rw [ex_a] at HNA
  generalize hi : nextI 1 3 1 1 = i at HNA
  clear m1 p1 b1 c_0 c_1 c_2 c_3
  go_wp2_with fail
  refine HNA.out.mono ?_
  rintro e w2 ⟨rfl, b2⟩
  simp only [Option.getD_some, Option.isSome_some]
  have HB2 := Lib.hid (show Below (w.alloc (.cells #[.int .i64 1, .int .i64 1, .int .i64 3, .int .u64 0] 24)).heap.size (w.alloc (.cells #[.int .i64 1, .int .i64 1, .int .i64 3, .int .u64 0] 24)) (w2.alloc (.cells #[.int .i64 1, .int .i64 i, .int .u64 0, .int .u64 0, .int .u64 2] 41)) from chain (chain HB1.out b2) (ba _ _))
  have HM2 := Lib.hid (HM1.out.later (chain b2 (ba _ (.cells #[.int .i64 1, .int .i64 i, .int .u64 0, .int .u64 0, .int .u64 2] 41))))
  have HZ2 := Lib.hid (show ¬ w2.heap.size = p by have := HM1.out.lt; have := b2.size; omega)
  clear b2
  go_wp2_with fail
  refine (Mark_tell HM2.out (show (0 : Int) ≤ 8 ∧ (8 : Int) < 18446744073709551616 by decide)).mono ?_
  rintro e w3 ⟨rfl, m3, o3⟩
  rw [ex_1] at m3
  have HM3 := Lib.hid m3
  have HB3 := Lib.hid (show Below (w.alloc (.cells #[.int .i64 1, .int .i64 1, .int .i64 3, .int .u64 0] 24)).heap.size (w.alloc (.cells #[.int .i64 1, .int .i64 1, .int .i64 3, .int .u64 0] 24)) w3 from HB2.out.trans (o3.below HB2.out.size fun k e => by have := HP1.out; subst e; simp only [World.size_alloc]; omega))
  have HA3 := Lib.hid (five_later o3 (fun e => HZ2.out e))
  have HNB := Lib.hid (Mark_next m3)
  rw [ex_b, hi] at HNB
  clear m3 o3
  go_wp2_with fail
  refine HNB.out.mono ?_
  rintro e w4 ⟨rfl, b4⟩
  simp only [Option.getD_some, Option.isSome_some]
  have HB4 := Lib.hid (show Below (w.alloc (.cells #[.int .i64 1, .int .i64 1, .int .i64 3, .int .u64 0] 24)).heap.size (w.alloc (.cells #[.int .i64 1, .int .i64 1, .int .i64 3, .int .u64 0] 24)) (w4.alloc (.cells #[.int .i64 3, .int .i64 i, .int .u64 8, .int .u64 9, .int .u64 2] 41)) from chain (chain HB3.out b4) (ba _ _))
  have HM4 := Lib.hid (HM3.out.later (chain b4 (ba _ (.cells #[.int .i64 3, .int .i64 i, .int .u64 8, .int .u64 9, .int .u64 2] 41))))
  have HZ4 := Lib.hid (show ¬ w4.heap.size = p by have := HM3.out.lt; have := b4.size; omega)
  have HX4 := Lib.hid (chain b4 (ba _ (.cells #[.int .i64 3, .int .i64 i, .int .u64 8, .int .u64 9, .int .u64 2] 41)))
  clear b4
  go_wp2_with fail
  refine (Mark_tell HM4.out (show (0 : Int) ≤ 8 ∧ (8 : Int) < 18446744073709551616 by decide)).mono ?_
  rintro e w5 ⟨rfl, m5, o5⟩
  rw [ex_2] at m5
  have HM5 := Lib.hid m5
  have HB5 := Lib.hid (show Below (w.alloc (.cells #[.int .i64 1, .int .i64 1, .int .i64 3, .int .u64 0] 24)).heap.size (w.alloc (.cells #[.int .i64 1, .int .i64 1, .int .i64 3, .int .u64 0] 24)) w5 from HB4.out.trans (o5.below HB4.out.size fun k e => by have := HP1.out; subst e; simp only [World.size_alloc]; omega))
  have HA5 := Lib.hid (five_later o5 (fun e => HZ4.out e))
  obtain ⟨a0, a1, a2, a3, a4⟩ := HA3.out
  have HZA := Lib.hid (show w2.heap.size < p ∨ p < w2.heap.size from by have := HZ2.out; omega)
  have HX5 := Lib.hid (show ∀ j v, w3.cell? ⟨w2.heap.size, j, none⟩ = some v → w5.cell? ⟨w2.heap.size, j, none⟩ = some v from fun j v h => o5.cell (cell_later HX4.out h) (fun e => HZ2.out e))
  have HNC := Lib.hid (Mark_next m5)
  rw [ex_c] at HNC
  generalize hj : nextI 1 3 1 0 = j at HNC
  clear m5 o5
  go_wp2_with fail
  refine HNC.out.mono ?_
  rintro e w6 ⟨rfl, b6⟩
  simp only [Option.getD_some, Option.isSome_some]
  have HB6 := Lib.hid (chain HB5.out (chain b6 (ba _ (.cells #[.int .i64 1, .int .i64 j, .int .u64 0, .int .u64 0, .int .u64 2] 41))))
  have hb6 := chain b6 (ba _ (.cells #[.int .i64 1, .int .i64 j, .int .u64 0, .int .u64 0, .int .u64 2] 41))
  have X0 := fun p : After (w6.alloc (.cells #[.int .i64 1, .int .i64 j, .int .u64 0, .int .u64 0, .int .u64 2] 41)) => p.cell (cell_later hb6 (HX5.out _ _ a0))
  have X1 := fun p : After (w6.alloc (.cells #[.int .i64 1, .int .i64 j, .int .u64 0, .int .u64 0, .int .u64 2] 41)) => p.cell (cell_later hb6 (HX5.out _ _ a1))
  have X2 := fun p : After (w6.alloc (.cells #[.int .i64 1, .int .i64 j, .int .u64 0, .int .u64 0, .int .u64 2] 41)) => p.cell (cell_later hb6 (HX5.out _ _ a2))
  have X3 := fun p : After (w6.alloc (.cells #[.int .i64 1, .int .i64 j, .int .u64 0, .int .u64 0, .int .u64 2] 41)) => p.cell (cell_later hb6 (HX5.out _ _ a3))
  have X4 := fun p : After (w6.alloc (.cells #[.int .i64 1, .int .i64 j, .int .u64 0, .int .u64 0, .int .u64 2] 41)) => p.cell (cell_later hb6 (HX5.out _ _ a4))
  obtain ⟨x0, x1, x2, x3, x4⟩ := HA5.out
  have Z0 := fun p : After (w6.alloc (.cells #[.int .i64 1, .int .i64 j, .int .u64 0, .int .u64 0, .int .u64 2] 41)) => p.cell (cell_later hb6 x0)
  have Z1 := fun p : After (w6.alloc (.cells #[.int .i64 1, .int .i64 j, .int .u64 0, .int .u64 0, .int .u64 2] 41)) => p.cell (cell_later hb6 x1)
  have Z2 := fun p : After (w6.alloc (.cells #[.int .i64 1, .int .i64 j, .int .u64 0, .int .u64 0, .int .u64 2] 41)) => p.cell (cell_later hb6 x2)
  have Z3 := fun p : After (w6.alloc (.cells #[.int .i64 1, .int .i64 j, .int .u64 0, .int .u64 0, .int .u64 2] 41)) => p.cell (cell_later hb6 x3)
  have Z4 := fun p : After (w6.alloc (.cells #[.int .i64 1, .int .i64 j, .int .u64 0, .int .u64 0, .int .u64 2] 41)) => p.cell (cell_later hb6 x4)
  obtain ⟨y0, y1, y2, y3, y4⟩ := five_later (Only.refl (fun _ => False) (w6.alloc (.cells #[.int .i64 1, .int .i64 j, .int .u64 0, .int .u64 0, .int .u64 2] 41))) id
  have Y0 := fun p : After (w6.alloc (.cells #[.int .i64 1, .int .i64 j, .int .u64 0, .int .u64 0, .int .u64 2] 41)) => p.cell y0
  have Y1 := fun p : After (w6.alloc (.cells #[.int .i64 1, .int .i64 j, .int .u64 0, .int .u64 0, .int .u64 2] 41)) => p.cell y1
  have Y2 := fun p : After (w6.alloc (.cells #[.int .i64 1, .int .i64 j, .int .u64 0, .int .u64 0, .int .u64 2] 41)) => p.cell y2
  have Y3 := fun p : After (w6.alloc (.cells #[.int .i64 1, .int .i64 j, .int .u64 0, .int .u64 0, .int .u64 2] 41)) => p.cell y3
  have Y4 := fun p : After (w6.alloc (.cells #[.int .i64 1, .int .i64 j, .int .u64 0, .int .u64 0, .int .u64 2] 41)) => p.cell y4
  obtain ⟨c_0, c_1, c_2, c_3⟩ := box4_later (by have h := HB6.out; rwa [World.size_alloc] at h)
  have C_0 := fun p : After (w6.alloc (.cells #[.int .i64 1, .int .i64 j, .int .u64 0, .int .u64 0, .int .u64 2] 41)) => p.cell c_0
  have C_1 := fun p : After (w6.alloc (.cells #[.int .i64 1, .int .i64 j, .int .u64 0, .int .u64 0, .int .u64 2] 41)) => p.cell c_1
  have C_2 := fun p : After (w6.alloc (.cells #[.int .i64 1, .int .i64 j, .int .u64 0, .int .u64 0, .int .u64 2] 41)) => p.cell c_2
  have C_3 := fun p : After (w6.alloc (.cells #[.int .i64 1, .int .i64 j, .int .u64 0, .int .u64 0, .int .u64 2] 41)) => p.cell c_3
  have HP2 := Lib.hid (fun W => Plan.Next_any 1 1 3 0 1 1 W)
  have HP3 := Lib.hid (fun W => Plan.Next_any 1 1 3 0 1 0 W)
  rw [hi] at HP2
  rw [hj] at HP3
  have N1 := fun W => eqlD (1, i, 0, 0, 2) (1, i, 0, 0, 2) W
  have N2 := fun W => eqlD (3, i, 8, 9, 2) (3, i, 8, 9, 2) W
  have N3 := fun W => eqlD (1, j, 0, 0, 2) (1, j, 0, 0, 2) W
  simp only [decide_true] at N1 N2 N3
  have HEND := Lib.hid (show ∀ W, Below (w6.alloc (.cells #[.int .i64 1, .int .i64 j, .int .u64 0, .int .u64 0, .int .u64 2] 41)).heap.size (w6.alloc (.cells #[.int .i64 1, .int .i64 j, .int .u64 0, .int .u64 0, .int .u64 2] 41)) W → Below w.heap.size w W from fun W hb => HB0.out.trans ((chain HB6.out hb).mono HB0.out.size))
  clear a0 a1 a2 a3 a4 x0 x1 x2 x3 x4 y0 y1 y2 y3 y4 c_0 c_1 c_2 c_3 hb6 b6 hi hj
  go_wp2
  refine wp_region_after mixed (by kernel_rfl) ?_
  repeat (first | go_big_quiet_step ((first | (with_reducible exact calls_after (HP2.out _)) | (with_reducible exact calls_after (HP3.out _)))) | quiet_step ((first | (with_reducible exact calls_after (HP2.out _)) | (with_reducible exact calls_after (HP3.out _)))))
  refine wpQuiet_nil ?_
  intro _ hw'
  obtain ⟨pq, hw''⟩ := hw'
  subst hw''
  go_wp2
  go_ret
  exact ⟨rfl, HEND.out _ pq.ok⟩
end Go.Proofs.YtpefngpmbladeaaDoor.Law22
