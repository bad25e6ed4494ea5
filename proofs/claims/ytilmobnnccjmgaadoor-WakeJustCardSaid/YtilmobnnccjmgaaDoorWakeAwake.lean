/- Law 28's example. -/
import Derived.Test.YtilmobnnccjmgaaDoorWakeWalks
import Derived.Test.YtilmobnnccjmgaaDoorTaskEq
import Derived.Deep.DeepCutAuto
import Derived.Deep.RegionHeld3
namespace Go.Proofs.YtilmobnnccjmgaaDoor.Law28
set_option maxRecDepth 20000
open Go.ChangeShapes Go.WideShapes Go.ChangeAt Go.RowKit CM DM PM WkM Runs Lay Plan Go.Proofs.YtilmobnnccjmgaaDoor.Task
open Go.Proofs.YtilmobnnccjmgaaDoor.Wkr (Wakes Wake_any Wake_next Wake_tell)
set_option linter.unusedVariables false
set_option linter.unusedSimpArgs false

theorem wf_u64 {a : Int} (h : (Lit.int .u64 a).wf = true) : 0 ≤ a ∧ a < 18446744073709551616 := by
  simp [Lit.wf, IntKind.min, IntKind.max, IntKind.signed, IntKind.bits] at h; omega
theorem wf_i64 {a : Int} (h : (Lit.int .i64 a).wf = true) : -9223372036854775808 ≤ a ∧ a ≤ 9223372036854775807 := by
  simp [Lit.wf, IntKind.min, IntKind.max, IntKind.signed, IntKind.bits] at h; omega
theorem plan4 {w w' : World} {N : Nat} {R : Nat → Prop} {T S L G : Int} (h : w.cell? ⟨N, 0, none⟩ = some (.int .i64 T) ∧ w.cell? ⟨N, 1, none⟩ = some (.int .i64 S) ∧ w.cell? ⟨N, 2, none⟩ = some (.int .i64 L) ∧ w.cell? ⟨N, 3, none⟩ = some (.int .u64 G)) (ho : Only R w w') (hr : ¬ R N) :
    w'.cell? ⟨N, 0, none⟩ = some (.int .i64 T) ∧ w'.cell? ⟨N, 1, none⟩ = some (.int .i64 S) ∧ w'.cell? ⟨N, 2, none⟩ = some (.int .i64 L) ∧ w'.cell? ⟨N, 3, none⟩ = some (.int .u64 G) :=
  ⟨ho.cell h.1 hr, ho.cell h.2.1 hr, ho.cell h.2.2.1 hr, ho.cell h.2.2.2 hr⟩
theorem ba (w : World) (o : Obj) : Below w.heap.size w (w.alloc o) := (Below.refl _ _).alloc (Nat.le_refl _) _
theorem chain {w a b : World} (h : Below w.heap.size w a) (k : Below a.heap.size a b) : Below w.heap.size w b := h.trans (k.mono h.size)
/-- The example's numbers. -/
theorem due_5 : dueW 5 = 6 := rfl
theorem ex_1 : wakeT 2 5 WkM.start 10 = ⟨0, true⟩ := wakeT_long (by decide) (by rw [due_5]; decide)
theorem ex_2 : wakeT 2 5 ⟨0, true⟩ 0 = ⟨1, false⟩ := wakeT_add (by decide)
theorem ex_3 : wakeT 2 5 ⟨1, false⟩ 4 = ⟨2, false⟩ := wakeT_not (by decide) (by rw [due_5]; decide)
theorem ex_a : wakeA 2 ⟨0, true⟩ = some (4, ofI 2 2 0, 1, 0, 0) := wakeA_add (by decide)
theorem ex_z : wakeA 2 ⟨2, false⟩ = none := wakeA_done (by decide)
theorem deed_only {W W' : World} {k : Nat} {pl : Int} {R : Nat → Prop} (h : W.cell? ⟨k, 0, none⟩ = some (.int .i64 4) ∧ W.cell? ⟨k, 1, none⟩ = some (.int .i64 pl) ∧ W.cell? ⟨k, 2, none⟩ = some (.int .u64 1) ∧ W.cell? ⟨k, 3, none⟩ = some (.int .u64 0) ∧ W.cell? ⟨k, 4, none⟩ = some (.int .u64 0)) (ho : Only R W W') (hr : ¬ R k) : (fun W : World => W.cell? ⟨k, 0, none⟩ = some (.int .i64 4) ∧ W.cell? ⟨k, 1, none⟩ = some (.int .i64 pl) ∧ W.cell? ⟨k, 2, none⟩ = some (.int .u64 1) ∧ W.cell? ⟨k, 3, none⟩ = some (.int .u64 0) ∧ W.cell? ⟨k, 4, none⟩ = some (.int .u64 0)) W' :=
  ⟨ho.cell h.1 hr, ho.cell h.2.1 hr, ho.cell h.2.2.1 hr, ho.cell h.2.2.2.1 hr, ho.cell h.2.2.2.2 hr⟩
theorem stay9 {w W W' : World} {k : Nat} {pl : Int} (hb : Below W.heap.size W W') (h : (W.cell? ⟨w.heap.size, 0, none⟩ = some (.int .i64 2) ∧ W.cell? ⟨w.heap.size, 1, none⟩ = some (.int .i64 1) ∧ W.cell? ⟨w.heap.size, 2, none⟩ = some (.int .i64 1) ∧ W.cell? ⟨w.heap.size, 3, none⟩ = some (.int .u64 0)) ∧ W.cell? ⟨k, 0, none⟩ = some (.int .i64 4) ∧ W.cell? ⟨k, 1, none⟩ = some (.int .i64 pl) ∧ W.cell? ⟨k, 2, none⟩ = some (.int .u64 1) ∧ W.cell? ⟨k, 3, none⟩ = some (.int .u64 0) ∧ W.cell? ⟨k, 4, none⟩ = some (.int .u64 0)) : (fun W : World => (W.cell? ⟨w.heap.size, 0, none⟩ = some (.int .i64 2) ∧ W.cell? ⟨w.heap.size, 1, none⟩ = some (.int .i64 1) ∧ W.cell? ⟨w.heap.size, 2, none⟩ = some (.int .i64 1) ∧ W.cell? ⟨w.heap.size, 3, none⟩ = some (.int .u64 0)) ∧ W.cell? ⟨k, 0, none⟩ = some (.int .i64 4) ∧ W.cell? ⟨k, 1, none⟩ = some (.int .i64 pl) ∧ W.cell? ⟨k, 2, none⟩ = some (.int .u64 1) ∧ W.cell? ⟨k, 3, none⟩ = some (.int .u64 0) ∧ W.cell? ⟨k, 4, none⟩ = some (.int .u64 0)) W' :=
  ⟨plan4 h.1 (only_below (fun _ => False) hb) id, deed_only h.2 (only_below (fun _ => False) hb) id⟩
set_option maxHeartbeats 1000000 in
theorem awake_any (w : World) : Calls Tryd.prog 4 #[] w fun e w' => e = .returned (.bool true) ∧ Below w.heap.size w w' := by
  have HB0 := Lib.hid (box_below w (.cells #[.int .i64 2, .int .i64 1, .int .i64 1, .int .u64 0] 24))
  have HC := Lib.hid (box4 w (.int .i64 2) (.int .i64 1) (.int .i64 1) (.int .u64 0) 24)
  obtain ⟨c_0, c_1, c_2, c_3⟩ := HC.out
  go_enter Tryd.func4, Tryd.ntmps4
  go_wp2_with fail
  refine (Wake_any (T := 2) (by decide) 1 1 0 5 _).mono ?_
  rintro e w1 ⟨p, rfl, m1, p1, b1⟩
  have HM1 := Lib.hid m1
  have HP := Lib.hid (show w.heap.size < p from by simp only [World.size_alloc] at p1; omega)
  have HB1 := Lib.hid (show Below (w.alloc (.cells #[.int .i64 2, .int .i64 1, .int .i64 1, .int .u64 0] 24)).heap.size (w.alloc (.cells #[.int .i64 2, .int .i64 1, .int .i64 1, .int .u64 0] 24)) w1 from b1)
  clear m1 p1 b1 c_0 c_1 c_2 c_3
  go_wp2_with fail
  refine (Wake_tell HM1.out (x := 10) ⟨by decide, by decide⟩).mono ?_
  rintro e w2 ⟨rfl, m2, o2⟩
  rw [ex_1] at m2
  have HM2 := Lib.hid m2
  have HB2 := Lib.hid (HB1.out.trans (o2.below HB1.out.size fun k e => by subst e; simp only [World.size_alloc]; have := HP.out; omega))
  have HNX := Lib.hid (Wake_next m2)
  rw [ex_a] at HNX
  have HSM := Lib.hid fun W => Plan.Sem_any 2 1 1 0 0 W
  generalize ofI 2 2 0 = pl at HNX HSM
  clear m2 o2
  go_wp2_with fail
  refine HNX.out.mono ?_
  rintro e w3 ⟨rfl, b3⟩
  simp only [Option.getD_some, Option.isSome_some]
  go_wp2_with fail
  have HK := Lib.hid (show p < w3.heap.size from by have h1 := HM2.out.lt; have h2 := b3.size; omega)
  have HM3 := Lib.hid (HM2.out.later (chain b3 (ba w3 (.cells #[.int .i64 4, .int .i64 pl, .int .u64 1, .int .u64 0, .int .u64 0] 38))))
  have HB3 := Lib.hid (show Below (w.alloc (.cells #[.int .i64 2, .int .i64 1, .int .i64 1, .int .u64 0] 24)).heap.size (w.alloc (.cells #[.int .i64 2, .int .i64 1, .int .i64 1, .int .u64 0] 24)) (w3.alloc (.cells #[.int .i64 4, .int .i64 pl, .int .u64 1, .int .u64 0, .int .u64 0] 38)) from HB2.out.trans ((chain b3 (ba w3 (.cells #[.int .i64 4, .int .i64 pl, .int .u64 1, .int .u64 0, .int .u64 0] 38))).mono HB2.out.size))
  have HD3 := Lib.hid (show (fun (k : Nat) (W : World) => W.cell? ⟨k, 0, none⟩ = some (.int .i64 4) ∧ W.cell? ⟨k, 1, none⟩ = some (.int .i64 pl) ∧ W.cell? ⟨k, 2, none⟩ = some (.int .u64 1) ∧ W.cell? ⟨k, 3, none⟩ = some (.int .u64 0) ∧ W.cell? ⟨k, 4, none⟩ = some (.int .u64 0)) w3.heap.size (w3.alloc (.cells #[.int .i64 4, .int .i64 pl, .int .u64 1, .int .u64 0, .int .u64 0] 38)) from by
    have hn := new_heap w3 (.cells #[.int .i64 4, .int .i64 pl, .int .u64 1, .int .u64 0, .int .u64 0] 38)
    exact ⟨(cell_heap hn 0).1, (cell_heap hn 1).1, (cell_heap hn 2).1, (cell_heap hn 3).1, (cell_heap hn 4).1⟩)
  clear b3 HNX HM1 HB1 HM2 HB2
  generalize w3.heap.size = k at HK HD3 ⊢
  generalize w3.alloc (.cells #[.int .i64 4, .int .i64 pl, .int .u64 1, .int .u64 0, .int .u64 0] 38) = w4 at HM3 HB3 HD3 ⊢
  go_wp2_with fail
  refine (Wake_tell HM3.out (x := 0) ⟨by decide, by decide⟩).mono ?_
  rintro e w5 ⟨rfl, m5, o5⟩
  rw [ex_2] at m5
  have HM5 := Lib.hid m5
  have HB5 := Lib.hid (HB3.out.trans (o5.below HB3.out.size fun k e => by subst e; simp only [World.size_alloc]; have := HP.out; omega))
  have HD5 := Lib.hid (deed_only HD3.out o5 (by have := HK.out; omega))
  clear m5 o5 HM3 HB3 HD3
  go_wp2_with fail
  refine (Wake_tell HM5.out (x := 4) ⟨by decide, by decide⟩).mono ?_
  rintro e w6 ⟨rfl, m6, o6⟩
  rw [ex_3] at m6
  have HB6 := Lib.hid (HB5.out.trans (o6.below HB5.out.size fun k e => by subst e; simp only [World.size_alloc]; have := HP.out; omega))
  have HD6 := Lib.hid (deed_only HD5.out o6 (by have := HK.out; omega))
  have HNX := Lib.hid (Wake_next m6)
  rw [ex_z] at HNX
  clear m6 o6 HM5 HB5 HD5
  go_wp2_with fail
  refine HNX.out.mono ?_
  rintro e w7 ⟨rfl, b7⟩
  simp only [Option.getD_none, Option.isSome_none]
  go_wp2_with fail
  have HB7 := Lib.hid (show Below (w.alloc (.cells #[.int .i64 2, .int .i64 1, .int .i64 1, .int .u64 0] 24)).heap.size (w.alloc (.cells #[.int .i64 2, .int .i64 1, .int .i64 1, .int .u64 0] 24)) (w7.alloc (.cells #[.int .i64 0, .int .i64 0, .int .u64 0, .int .u64 0, .int .u64 0] 38)) from HB6.out.trans ((chain b7 (ba w7 (.cells #[.int .i64 0, .int .i64 0, .int .u64 0, .int .u64 0, .int .u64 0] 38))).mono HB6.out.size))
  have HD7 := Lib.hid (deed_only HD6.out (only_below (fun _ => False) (chain b7 (ba w7 (.cells #[.int .i64 0, .int .i64 0, .int .u64 0, .int .u64 0, .int .u64 0] 38)))) id)
  clear b7 HB6 HD6 HNX
  generalize w7.alloc (.cells #[.int .i64 0, .int .i64 0, .int .u64 0, .int .u64 0, .int .u64 0] 38) = w8 at HB7 HD7 ⊢
  have N1 := fun W => eqlD (4, pl, 1, 0, 0) (4, pl, 1, 0, 0) W
  have hg := guardD
  simp only [decide_true] at N1
  have HS0 := Lib.hid (show (fun W : World => (W.cell? ⟨w.heap.size, 0, none⟩ = some (.int .i64 2) ∧ W.cell? ⟨w.heap.size, 1, none⟩ = some (.int .i64 1) ∧ W.cell? ⟨w.heap.size, 2, none⟩ = some (.int .i64 1) ∧ W.cell? ⟨w.heap.size, 3, none⟩ = some (.int .u64 0)) ∧ W.cell? ⟨k, 0, none⟩ = some (.int .i64 4) ∧ W.cell? ⟨k, 1, none⟩ = some (.int .i64 pl) ∧ W.cell? ⟨k, 2, none⟩ = some (.int .u64 1) ∧ W.cell? ⟨k, 3, none⟩ = some (.int .u64 0) ∧ W.cell? ⟨k, 4, none⟩ = some (.int .u64 0)) w8.drew from ⟨box4_later (by have h := HB7.out.drew; rwa [World.size_alloc] at h), HD7.out⟩)
  have HEND := Lib.hid (show ∀ W, Below w8.drew.heap.size w8.drew W → Below w.heap.size w W from fun W hb => HB0.out.trans ((HB7.out.drew.trans (hb.mono HB7.out.drew.size)).mono HB0.out.size))
  go_region_held3 (fun W => (W.cell? ⟨w.heap.size, 0, none⟩ = some (.int .i64 2) ∧ W.cell? ⟨w.heap.size, 1, none⟩ = some (.int .i64 1) ∧ W.cell? ⟨w.heap.size, 2, none⟩ = some (.int .i64 1) ∧ W.cell? ⟨w.heap.size, 3, none⟩ = some (.int .u64 0)) ∧ W.cell? ⟨k, 0, none⟩ = some (.int .i64 4) ∧ W.cell? ⟨k, 1, none⟩ = some (.int .i64 pl) ∧ W.cell? ⟨k, 2, none⟩ = some (.int .u64 1) ∧ W.cell? ⟨k, 3, none⟩ = some (.int .u64 0) ∧ W.cell? ⟨k, 4, none⟩ = some (.int .u64 0))
    ((first | (with_reducible exact HS0.out) | (with_reducible assumption) | (with_reducible exact HS9.out)))
    (first
      | (go_at_call 9; refine (HSM.out _).mono ?_; rintro e w9 ⟨rfl, b9⟩; have HB9 := Lib.hid b9; have HS9 := Lib.hid (stay9 b9 HS0.out); clear b9))
  go_wp2
  go_ret
  exact ⟨rfl, HEND.out _ HB9.out⟩
end Go.Proofs.YtilmobnnccjmgaaDoor.Law28
