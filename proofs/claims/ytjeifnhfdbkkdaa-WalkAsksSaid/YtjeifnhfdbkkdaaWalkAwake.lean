/- Law 26's example. -/
import Derived.Test.YtjeifnhfdbkkdaaWalkMade
namespace Go.Proofs.Ytjeifnhfdbkkdaa.Law26
set_option maxRecDepth 20000
open Go.ChangeShapes Go.WideShapes Go.ChangeAt Go.RowKit CM DM PM KM WaM Runs Lay Plan Go.Proofs.Ytjeifnhfdbkkdaa.Task
open Go.Proofs.Ytjeifnhfdbkkdaa.Wlk (Walks Walk_any Walk_next Walk_tell Batch_any Stop_any Became)
set_option linter.unusedVariables false
set_option linter.unusedSimpArgs false

theorem wf_u64 {a : Int} (h : (Lit.int .u64 a).wf = true) : 0 ≤ a ∧ a < 18446744073709551616 := by
  simp [Lit.wf, IntKind.min, IntKind.max, IntKind.signed, IntKind.bits] at h; omega
theorem wf_i64 {a : Int} (h : (Lit.int .i64 a).wf = true) : -9223372036854775808 ≤ a ∧ a ≤ 9223372036854775807 := by
  simp [Lit.wf, IntKind.min, IntKind.max, IntKind.signed, IntKind.bits] at h; omega
theorem plan4 {w w' : World} {N : Nat} {R : Nat → Prop} {T S L G : Int} (h : w.cell? ⟨N, 0, none⟩ = some (.int .i64 T) ∧ w.cell? ⟨N, 1, none⟩ = some (.int .i64 S) ∧ w.cell? ⟨N, 2, none⟩ = some (.int .i64 L) ∧ w.cell? ⟨N, 3, none⟩ = some (.int .u64 G)) (ho : Only R w w') (hr : ¬ R N) :
    w'.cell? ⟨N, 0, none⟩ = some (.int .i64 T) ∧ w'.cell? ⟨N, 1, none⟩ = some (.int .i64 S) ∧ w'.cell? ⟨N, 2, none⟩ = some (.int .i64 L) ∧ w'.cell? ⟨N, 3, none⟩ = some (.int .u64 G) :=
  ⟨ho.cell h.1 hr, ho.cell h.2.1 hr, ho.cell h.2.2.1 hr, ho.cell h.2.2.2 hr⟩
theorem ex_1 : walkT 3 WaM.start 5 = ⟨2, 5, 0, 0, never, []⟩ := by unfold WaM.start; rw [walkT_1, wrap_in (by omega)]
theorem ex_2 : walkT 3 ⟨2, 5, 0, 0, never, []⟩ 0 = ⟨0, 5, 0, 0, never, []⟩ := by rw [walkT_2, arrive_done (.inr rfl)]
/-- Told, it lies behind the world of the beginning still. -/
theorem told {w W W' : World} {S : Nat → Prop} {p k : Nat} {T N L G ct : Int} {s : WaM.St} (hb : Below w.heap.size w W) (hS : ∀ j, S j → w.heap.size ≤ j) (h : Became W S p T N L G ct k s W') : ∃ S', Walks W' p S' T N L G ct k s ∧ Below w.heap.size w W' ∧ ∀ j, S' j → w.heap.size ≤ j := by
  obtain ⟨S', h1, h2, h3⟩ := h
  exact ⟨S', h1, hb.trans (h2.below hb.size hS), fun j e => (h3 j e).elim (hS j) (fun e => Nat.le_trans hb.size e.1)⟩
set_option maxHeartbeats 1000000 in
theorem awake_any (w : World) : Calls Try.prog 4 #[] w fun e w' => e = .returned (.bool true) ∧ Below w.heap.size w w' := by
  go_enter Try.func4, Try.ntmps4
  go_wp2_with fail
  refine (Walk_any 1 1 1 0 3 _).mono ?_
  rintro e w1 ⟨p, S, rfl, h1, hS1, b1⟩
  have H1 := Lib.hid h1
  have HB1 := Lib.hid b1
  have HS1 := Lib.hid (show ∀ j, S j → w.heap.size ≤ j from fun j e => (hS1 j e).1)
  clear h1 hS1 b1
  go_wp2_with fail
  refine (Walk_tell H1.out (by decide) (x := 5) ⟨by decide, by decide⟩).mono ?_
  rintro e w2 ⟨rfl, h2⟩
  rw [ex_1] at h2
  obtain ⟨S2, h2, b2, hS2⟩ := told HB1.out HS1.out h2
  have H2 := Lib.hid h2
  have HB2 := Lib.hid b2
  have HS2 := Lib.hid hS2
  clear h2 b2 hS2 H1 HB1 HS1
  go_wp2_with fail
  refine (Walk_tell H2.out (by decide) (x := 0) ⟨by decide, by decide⟩).mono ?_
  rintro e w3 ⟨rfl, h3⟩
  rw [ex_2] at h3
  obtain ⟨S3, h3, b3, hS3⟩ := told HB2.out HS2.out h3
  have H3 := Lib.hid h3
  have HB3 := Lib.hid b3
  clear h3 b3 hS3 H2 HB2 HS2
  go_wp2_with fail
  have hnx := Walk_next H3.out
  rw [walkA_0] at hnx
  refine hnx.mono ?_
  rintro e w4 ⟨rfl, b4⟩
  simp only [Option.getD_none, Option.isSome_none]
  have HB4 := Lib.hid (b4.trans ((box_below w4 (.cells #[.int .i64 0, .int .i64 0, .int .u64 0, .int .u64 0, .int .u64 0] 31)).mono b4.size))
  have H4 := Lib.hid (H3.out.later HB4.out)
  clear b4 hnx
  go_wp2_with fail
  refine (Batch_any H4.out (by decide)).mono ?_
  rintro e w5 ⟨A, c, rfl, -, b5⟩
  have HB5 := Lib.hid b5
  have H5 := Lib.hid (H4.out.later b5)
  clear b5
  simp only [List.length_nil]
  have hst := Stop_any H5.out
  simp only [never] at hst
  have HST := Lib.hid hst
  clear hst
  go_wp2_with fail
  refine HST.out.mono ?_
  rintro e w6 ⟨rfl, rfl⟩
  go_wp2
  go_ret
  exact ⟨rfl, (HB3.out.trans (HB4.out.mono HB3.out.size)).trans (HB5.out.mono (HB3.out.trans (HB4.out.mono HB3.out.size)).size)⟩
end Go.Proofs.Ytjeifnhfdbkkdaa.Law26
