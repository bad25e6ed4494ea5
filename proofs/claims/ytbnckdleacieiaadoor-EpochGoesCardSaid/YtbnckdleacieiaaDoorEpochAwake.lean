/- Law 14's example. -/
import Derived.Test.YtbnckdleacieiaaDoorEpochNext
namespace Go.Proofs.YtbnckdleacieiaaDoor.Law14
set_option maxRecDepth 20000
open Go.ChangeShapes Go.WideShapes Go.ChangeAt Go.RowKit CM DM PM EM Lay Plan Epoch Go.Proofs.YtbnckdleacieiaaDoor.Task
set_option linter.unusedVariables false
set_option linter.unusedSimpArgs false

theorem wf_u64 {a : Int} (h : (Lit.int .u64 a).wf = true) : 0 ≤ a ∧ a < 18446744073709551616 := by
  simp [Lit.wf, IntKind.min, IntKind.max, IntKind.signed, IntKind.bits] at h; omega
theorem plan4 {w w' : World} {N : Nat} {R : Nat → Prop} {T S L G : Int} (h : w.cell? ⟨N, 0, none⟩ = some (.int .i64 T) ∧ w.cell? ⟨N, 1, none⟩ = some (.int .i64 S) ∧ w.cell? ⟨N, 2, none⟩ = some (.int .i64 L) ∧ w.cell? ⟨N, 3, none⟩ = some (.int .u64 G)) (ho : Only R w w') (hr : ¬ R N) :
    w'.cell? ⟨N, 0, none⟩ = some (.int .i64 T) ∧ w'.cell? ⟨N, 1, none⟩ = some (.int .i64 S) ∧ w'.cell? ⟨N, 2, none⟩ = some (.int .i64 L) ∧ w'.cell? ⟨N, 3, none⟩ = some (.int .u64 G) :=
  ⟨ho.cell h.1 hr, ho.cell h.2.1 hr, ho.cell h.2.2.1 hr, ho.cell h.2.2.2 hr⟩

theorem awake_any (w : World) : Calls Tryd.prog 4 #[] w fun e w' => e = .returned (.bool true) ∧ Below w.heap.size w w' := by
  have HA := Lib.hid (Advance_any 2 1 1 0 w)
  have e1 : ofI 2 0 0 = 4 := by unfold ofI wrap64; omega
  have HE1 := Lib.hid e1
  clear e1
  go_enter Tryd.func4, Tryd.ntmps4
  go_wp2_with fail
  refine HA.out.mono ?_
  rintro e w1 ⟨p, rfl, p1, hp1, b1⟩
  have HP1 := Lib.hid p1
  have HB1 := Lib.hid b1
  have HPP := Lib.hid hp1
  clear p1 b1 hp1
  go_wp2_with fail
  refine (Adv_tell HP1.out (f := 4) (by decide)).mono ?_
  rintro e w2 ⟨rfl, p2, o2⟩
  rw [advT_2, go_ask (by decide)] at p2
  have HP2 := Lib.hid p2
  have HB2 := Lib.hid (HB1.out.trans (o2.below HB1.out.size (fun k e => by subst e; exact HPP.out)))
  have HNX := Lib.hid (Adv_next p2)
  rw [advA_3, HE1.out] at HNX
  clear p2 o2
  go_wp2_with fail
  refine HNX.out.mono ?_
  rintro e w3 ⟨rfl, b3⟩
  simp only [Option.getD_some, Option.isSome_some]
  have HB3 := Lib.hid (b3.trans ((box_below w3 (.cells #[.int .i64 1, .int .i64 4, .int .u64 0, .int .u64 0, .int .u64 0] 38)).mono b3.size))
  have HP3 := Lib.hid (HP2.out.only (only_below (fun _ => False) HB3.out) id)
  have HBX := Lib.hid (res5 (Below.refl (w3.alloc (.cells #[.int .i64 1, .int .i64 4, .int .u64 0, .int .u64 0, .int .u64 0] 38)).heap.size (w3.alloc (.cells #[.int .i64 1, .int .i64 4, .int .u64 0, .int .u64 0, .int .u64 0] 38))))
  have HNE := Lib.hid (show w3.heap.size ≠ p by have h1 := HP2.out.lt; have h2 := b3.size; omega)
  clear b3
  go_wp2_with fail
  refine (Adv_tell HP3.out (f := 3) (by decide)).mono ?_
  rintro e w4 ⟨rfl, p4, o4⟩
  rw [advT_3n (by decide)] at p4
  obtain ⟨q0, q1, q2, q3, q4⟩ := HBX.out.1
  have HR := Lib.hid (And.intro (o4.cell q0 HNE.out) (And.intro (o4.cell q1 HNE.out) (And.intro (o4.cell q2 HNE.out) (And.intro (o4.cell q3 HNE.out) (o4.cell q4 HNE.out)))))
  have HNX4 := Lib.hid (Adv_next p4)
  rw [advA_0] at HNX4
  have HP4 := Lib.hid p4
  have HB4 := Lib.hid ((HB2.out.trans (HB3.out.mono HB2.out.size)).trans (o4.below (HB2.out.trans (HB3.out.mono HB2.out.size)).size (fun k e => by subst e; exact HPP.out)))
  clear p4 o4 q0 q1 q2 q3 q4
  go_wp2_with fail
  refine HNX4.out.mono ?_
  rintro e w5 ⟨rfl, b5⟩
  simp only [Option.getD_none, Option.isSome_none]
  have HB5 := Lib.hid (b5.trans ((box_below w5 (.cells #[.int .i64 0, .int .i64 0, .int .u64 0, .int .u64 0, .int .u64 0] 38)).mono b5.size))
  have HW := Lib.hid (Won_any (HP4.out.only (only_below (fun _ => False) HB5.out) id))
  rw [won_0] at HW
  have r0 := cell_later HB5.out HR.out.1
  have r1 := cell_later HB5.out HR.out.2.1
  have r2 := cell_later HB5.out HR.out.2.2.1
  have r3 := cell_later HB5.out HR.out.2.2.2.1
  have r4 := cell_later HB5.out HR.out.2.2.2.2
  clear b5
  go_wp2_with fail
  refine HW.out.mono ?_
  rintro e w6 ⟨rfl, rfl⟩
  go_wp2
  go_ret
  exact ⟨rfl, HB4.out.trans (HB5.out.mono HB4.out.size)⟩
end Go.Proofs.YtbnckdleacieiaaDoor.Law14
