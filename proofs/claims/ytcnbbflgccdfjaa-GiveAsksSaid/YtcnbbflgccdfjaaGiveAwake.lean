/- Law 16's example. -/
import Derived.Test.YtcnbbflgccdfjaaGiveWalks
import Derived.Deep.RegionWith
import Derived.Deep.DeepCutAuto
namespace Go.Proofs.Ytcnbbflgccdfjaa.Law16
set_option maxRecDepth 20000
open Go.ChangeShapes Go.WideShapes Go.ChangeAt Go.RowKit CM DM PM GiM Lay Plan Go.Proofs.Ytcnbbflgccdfjaa.Give Go.Proofs.Ytcnbbflgccdfjaa.Task
set_option linter.unusedVariables false
set_option linter.unusedSimpArgs false

theorem wf_u64 {a : Int} (h : (Lit.int .u64 a).wf = true) : 0 ≤ a ∧ a < 18446744073709551616 := by
  simp [Lit.wf, IntKind.min, IntKind.max, IntKind.signed, IntKind.bits] at h; omega
theorem plan4 {w w' : World} {N : Nat} {R : Nat → Prop} {T S L G : Int} (h : w.cell? ⟨N, 0, none⟩ = some (.int .i64 T) ∧ w.cell? ⟨N, 1, none⟩ = some (.int .i64 S) ∧ w.cell? ⟨N, 2, none⟩ = some (.int .i64 L) ∧ w.cell? ⟨N, 3, none⟩ = some (.int .u64 G)) (ho : Only R w w') (hr : ¬ R N) :
    w'.cell? ⟨N, 0, none⟩ = some (.int .i64 T) ∧ w'.cell? ⟨N, 1, none⟩ = some (.int .i64 S) ∧ w'.cell? ⟨N, 2, none⟩ = some (.int .i64 L) ∧ w'.cell? ⟨N, 3, none⟩ = some (.int .u64 G) :=
  ⟨ho.cell h.1 hr, ho.cell h.2.1 hr, ho.cell h.2.2.1 hr, ho.cell h.2.2.2 hr⟩

/-- Behind the first sentence: what was told lies in block g. -/
def Got (w : World) (g : Nat) (W : World) : Prop :=
  (W.cell? ⟨g, 0, none⟩ = some (.int .i64 2) ∧ W.cell? ⟨g, 1, none⟩ = some (.int .i64 15) ∧ W.cell? ⟨g, 2, none⟩ = some (.int .u64 17179869184) ∧ W.cell? ⟨g, 3, none⟩ = some (.int .u64 0) ∧ W.cell? ⟨g, 4, none⟩ = some (.int .u64 0)) ∧
  Below (w.alloc (.cells #[.int .i64 1, .int .i64 3, .int .i64 1, .int .u64 0] 24)).heap.size (w.alloc (.cells #[.int .i64 1, .int .i64 3, .int .i64 1, .int .u64 0] 24)) W
theorem got_set {w Q w3 : World} (hq : Below (w.alloc (.cells #[.int .i64 1, .int .i64 3, .int .i64 1, .int .u64 0] 24)).heap.size (w.alloc (.cells #[.int .i64 1, .int .i64 3, .int .i64 1, .int .u64 0] 24)) Q) (h : Below (Q.alloc (.cells #[.int .i64 0, .int .i64 0, .int .u64 0, .int .u64 0, .int .u64 0] 31)).heap.size (Q.alloc (.cells #[.int .i64 0, .int .i64 0, .int .u64 0, .int .u64 0, .int .u64 0] 31)) w3) : Got w Q.heap.size ((((((w3.setCell ⟨Q.heap.size, 0, none⟩ (.int .i64 2)).setCell ⟨Q.heap.size, 1, none⟩ (.int .i64 15)).setCell ⟨Q.heap.size, 2, none⟩ (.int .u64 17179869184)).setCell ⟨Q.heap.size, 3, none⟩ (.int .u64 0)).setCell ⟨Q.heap.size, 4, none⟩ (.int .u64 0))) := by
  obtain ⟨h1, h2⟩ := set5 h (.int .i64 2) (.int .i64 15) (.int .u64 17179869184) (.int .u64 0) (.int .u64 0)
  exact ⟨h1, hq.trans (h2.mono hq.size)⟩
theorem got_mid {w Q w3 : World} (h2 : Below (w.alloc (.cells #[.int .i64 1, .int .i64 3, .int .i64 1, .int .u64 0] 24)).heap.size (w.alloc (.cells #[.int .i64 1, .int .i64 3, .int .i64 1, .int .u64 0] 24)) Q) (h3 : Below (Q.alloc (.cells #[.int .i64 0, .int .i64 0, .int .u64 0, .int .u64 0, .int .u64 0] 31)).heap.size (Q.alloc (.cells #[.int .i64 0, .int .i64 0, .int .u64 0, .int .u64 0, .int .u64 0] 31)) w3) : Got w Q.heap.size ((((((w3.setCell ⟨Q.heap.size, 0, none⟩ (.int .i64 2)).setCell ⟨Q.heap.size, 1, none⟩ (.int .i64 15)).setCell ⟨Q.heap.size, 2, none⟩ (.int .u64 17179869184)).setCell ⟨Q.heap.size, 3, none⟩ (.int .u64 0)).setCell ⟨Q.heap.size, 4, none⟩ (.int .u64 0))) := got_set h2 h3
theorem got_old {w w2 w3 : World} (h2 : Below ((w.alloc (.cells #[.int .i64 1, .int .i64 3, .int .i64 1, .int .u64 0] 24)).alloc (.cells #[.int .i64 0, .int .i64 0, .int .u64 0, .int .u64 0, .int .u64 0] 31)).heap.size ((w.alloc (.cells #[.int .i64 1, .int .i64 3, .int .i64 1, .int .u64 0] 24)).alloc (.cells #[.int .i64 0, .int .i64 0, .int .u64 0, .int .u64 0, .int .u64 0] 31)) w2) (h3 : Below w2.heap.size w2 w3) : Got w (w.heap.size + 1) ((((((w3.setCell ⟨w.heap.size + 1, 0, none⟩ (.int .i64 2)).setCell ⟨w.heap.size + 1, 1, none⟩ (.int .i64 15)).setCell ⟨w.heap.size + 1, 2, none⟩ (.int .u64 17179869184)).setCell ⟨w.heap.size + 1, 3, none⟩ (.int .u64 0)).setCell ⟨w.heap.size + 1, 4, none⟩ (.int .u64 0))) := by
  have h := got_set (w := w) (Below.refl _ _) (h2.trans (h3.mono h2.size))
  simpa only [World.size_alloc] using h
theorem Got.drew {w W : World} {g : Nat} (h : Got w g W) : Got w g W.drew := ⟨h.1, h.2.drew⟩
theorem got_new {w w2 w3 : World} (h2 : Below (w.alloc (.cells #[.int .i64 1, .int .i64 3, .int .i64 1, .int .u64 0] 24)).heap.size (w.alloc (.cells #[.int .i64 1, .int .i64 3, .int .i64 1, .int .u64 0] 24)) w2) (h3 : Below w2.heap.size w2 w3) : Got w w3.heap.size (w3.alloc (.cells #[.int .i64 2, .int .i64 15, .int .u64 17179869184, .int .u64 0, .int .u64 0] 31)) := by
  have h := h2.trans (h3.mono h2.size)
  refine ⟨?_, h.trans ((box_below _ _).mono h.size)⟩
  have hb := new_heap w3 (.cells #[.int .i64 2, .int .i64 15, .int .u64 17179869184, .int .u64 0, .int .u64 0] 31)
  exact ⟨(cell_heap hb 0).1, (cell_heap hb 1).1, (cell_heap hb 2).1, (cell_heap hb 3).1, (cell_heap hb 4).1⟩
theorem got_stays {w : World} {g : Nat} {wx W : World} (h : Got w g wx) (hb : Below wx.heap.size wx W) : (W.cell? ⟨g, 0, none⟩ = some (.int .i64 2) ∧ W.cell? ⟨g, 1, none⟩ = some (.int .i64 15) ∧ W.cell? ⟨g, 2, none⟩ = some (.int .u64 17179869184) ∧ W.cell? ⟨g, 3, none⟩ = some (.int .u64 0) ∧ W.cell? ⟨g, 4, none⟩ = some (.int .u64 0)) ∧ W.cell? ⟨w.heap.size, 0, none⟩ = some (.int .i64 1) ∧ W.cell? ⟨w.heap.size, 1, none⟩ = some (.int .i64 3) ∧ W.cell? ⟨w.heap.size, 2, none⟩ = some (.int .i64 1) ∧ W.cell? ⟨w.heap.size, 3, none⟩ = some (.int .u64 0) :=
  ⟨⟨cell_later hb h.1.1, cell_later hb h.1.2.1, cell_later hb h.1.2.2.1, cell_later hb h.1.2.2.2.1, cell_later hb h.1.2.2.2.2⟩, box4_later ((h.2.trans (hb.mono h.2.size)).mono (by simp))⟩
theorem got_start {w : World} {g : Nat} {wx : World} (h : Got w g wx) : (fun W : World => (W.cell? ⟨g, 0, none⟩ = some (.int .i64 2) ∧ W.cell? ⟨g, 1, none⟩ = some (.int .i64 15) ∧ W.cell? ⟨g, 2, none⟩ = some (.int .u64 17179869184) ∧ W.cell? ⟨g, 3, none⟩ = some (.int .u64 0) ∧ W.cell? ⟨g, 4, none⟩ = some (.int .u64 0)) ∧ W.cell? ⟨w.heap.size, 0, none⟩ = some (.int .i64 1) ∧ W.cell? ⟨w.heap.size, 1, none⟩ = some (.int .i64 3) ∧ W.cell? ⟨w.heap.size, 2, none⟩ = some (.int .i64 1) ∧ W.cell? ⟨w.heap.size, 3, none⟩ = some (.int .u64 0)) wx.drew := got_stays h (Below.refl _ _).drew
/-- What the example's giver asks for first. -/
theorem first_any (w : World) : Calls Try.prog 5 #[.agg #[.int .i64 1, .int .i64 3, .int .i64 1, .int .u64 0], .int .u64 12884901892] w fun e w' => ∃ p, e = .returned (.pointer (some ⟨p, 0, none⟩)) ∧ Below w.heap.size w w' ∧
    ∀ W, Below w'.heap.size w' W → Calls Try.prog 6 #[.pointer (some ⟨p, 0, none⟩)] W fun e w2 => e = .returned (.tuple #[.agg #[.int .i64 2, .int .i64 15, .int .u64 17179869184, .int .u64 0, .int .u64 0], .bool true]) ∧ Below W.heap.size W w2 := by
  refine (Give_any 1 3 1 0 12884901892 (by decide) (by decide) w).mono ?_
  rintro e w' ⟨p, S, rfl, hg, hs, hb⟩
  refine ⟨p, rfl, hb, fun W hW => ?_⟩
  have h := Next_any (hg.only (only_below (fun _ => False) hW) (fun _ _ => id))
  have e1 : giveA 1 1 ((12884901892 : Int) % 4294967296 / 2) (wordI ((12884901892 : Int) / 4294967296)) (init ((12884901892 : Int) / 4294967296)) = some (2, 15, 17179869184, 0, 0) := by
    have e2 : wordI ((12884901892 : Int) / 4294967296) = 17179869184 := by decide
    have e3 : atI 1 1 ((12884901892 : Int) % 4294967296 / 2) 0 = 15 := by unfold atI wrap64; decide
    rw [e2, init_some (by decide), giveA_1, e3]
  rw [e1] at h
  exact h
set_option maxHeartbeats 4000000 in
theorem awake_any (w : World) : Calls Try.prog 4 #[] w fun e w' => e = .returned (.bool true) ∧ Below w.heap.size w w' := by
  have HOF := Lib.hid (show ∀ W : World, Calls Try.prog 10 #[.int .u64 3, .int .i64 2] W fun e w' => e = .returned (.int .u64 12884901892) ∧ W = w' from fun W => Refer.Of_any 3 2 (by decide) W)
  have HST := Lib.hid (show ∀ W : World, Calls Try.prog 11 #[.agg #[.int .i64 1, .int .i64 3, .int .i64 1, .int .u64 0], .int .i64 2] W fun e w' => e = .returned (.int .i64 15) ∧ Below W.heap.size W w' from fun W => by
    have h := Plan.State_any 1 3 1 0 2 W
    have e3 : atI 1 1 2 0 = 15 := by unfold atI wrap64; decide
    rwa [e3] at h)
  have HSO := Lib.hid (show ∀ W : World, Calls Try.prog 12 #[.int .u64 4, .int .i64 0] W fun e w' => e = .returned (.int .u64 17179869184) ∧ W = w' from fun W => State.Of_any 4 0 (by decide) W)
  go_enter Try.func4, Try.ntmps4
  obtain ⟨c_0, c_1, c_2, c_3⟩ := box4 w (.int .i64 1) (.int .i64 3) (.int .i64 1) (.int .u64 0) 24
  go_wp2_with fail
  go_cut [2, 3] (fun s2 s3 wx => ∃ g : Nat, s2 = .pointer (some ⟨g, 0, none⟩) ∧ s3 = .bool true ∧ Got w g wx)
  case first =>
    go_region_with (first
      | (go_at_call 10; refine (HOF.out _).mono ?_; rintro e w1 ⟨rfl, rfl⟩)
      | (go_at_call 5; (with_reducible refine (first_any (((w.alloc (.cells #[.int .i64 1, .int .i64 3, .int .i64 1, .int .u64 0] 24)).alloc (.cells #[.int .i64 0, .int .i64 0, .int .u64 0, .int .u64 0, .int .u64 0] 31)).drew)).mono ?_); rintro e w2 ⟨p, rfl, b2, hn2⟩; have HZ := Lib.hid (show Below ((w.alloc (.cells #[.int .i64 1, .int .i64 3, .int .i64 1, .int .u64 0] 24)).alloc (.cells #[.int .i64 0, .int .i64 0, .int .u64 0, .int .u64 0, .int .u64 0] 31)).heap.size ((w.alloc (.cells #[.int .i64 1, .int .i64 3, .int .i64 1, .int .u64 0] 24)).alloc (.cells #[.int .i64 0, .int .i64 0, .int .u64 0, .int .u64 0, .int .u64 0] 31)) w2 from (Below.refl _ _).drew.trans b2); have HN2 := Lib.hid hn2; clear b2 hn2)
      | (go_at_call 5; (with_reducible refine (first_any ((w.alloc (.cells #[.int .i64 1, .int .i64 3, .int .i64 1, .int .u64 0] 24)).drew)).mono ?_); rintro e w2 ⟨p, rfl, b2, hn2⟩; have HB2 := Lib.hid (show Below (w.alloc (.cells #[.int .i64 1, .int .i64 3, .int .i64 1, .int .u64 0] 24)).heap.size (w.alloc (.cells #[.int .i64 1, .int .i64 3, .int .i64 1, .int .u64 0] 24)) w2 from (Below.refl _ _).drew.trans b2); have HN2 := Lib.hid hn2; clear b2 hn2)
      | (go_at_call 5; trace_state; fail)
      | (go_at_call 6; (with_reducible refine (HN2.out (w2.alloc (.cells #[.int .i64 0, .int .i64 0, .int .u64 0, .int .u64 0, .int .u64 0] 31)) (box_below _ _)).mono ?_); rintro e w3 ⟨rfl, b3⟩; obtain ⟨⟨r0, r1, r2, r3, r4⟩, g0, g1, g2, g3, g4⟩ := res5 b3; have HE := Lib.hid (got_mid HB2.out b3))
      | (go_at_call 6; refine (HN2.out _ (Below.refl _ _)).mono ?_; rintro e w3 ⟨rfl, b3⟩; first | (obtain ⟨⟨r0, r1, r2, r3, r4⟩, g0, g1, g2, g3, g4⟩ := res5 (HZ.out.trans (b3.mono HZ.out.size)); simp only [World.size_alloc] at r0 r1 r2 r3 r4 g0 g1 g2 g3 g4; have HE := Lib.hid (got_old HZ.out b3)) | (have HE := Lib.hid (got_new HB2.out b3))))
    all_goals go_wp2_with fail
    all_goals go_meet
    all_goals (case rel => refine ⟨_, rfl, rfl, ?_⟩; first | (with_reducible exact HE.out) | (with_reducible exact HE.out.drew))
  case rest =>
    obtain ⟨g, rfl, rfl, hg0⟩ := hcut
    have HG0 := Lib.hid hg0
    clear hg0 c_0 c_1 c_2 c_3
    go_wp2_with fail
    go_region_held3 (fun W => (W.cell? ⟨g, 0, none⟩ = some (.int .i64 2) ∧ W.cell? ⟨g, 1, none⟩ = some (.int .i64 15) ∧ W.cell? ⟨g, 2, none⟩ = some (.int .u64 17179869184) ∧ W.cell? ⟨g, 3, none⟩ = some (.int .u64 0) ∧ W.cell? ⟨g, 4, none⟩ = some (.int .u64 0)) ∧ W.cell? ⟨w.heap.size, 0, none⟩ = some (.int .i64 1) ∧ W.cell? ⟨w.heap.size, 1, none⟩ = some (.int .i64 3) ∧ W.cell? ⟨w.heap.size, 2, none⟩ = some (.int .i64 1) ∧ W.cell? ⟨w.heap.size, 3, none⟩ = some (.int .u64 0))
      ((first | (with_reducible exact got_start HG0.out) | (with_reducible assumption) | (with_reducible exact got_stays HG0.out HB4.out)))
      (first
        | (go_at_call 11; refine (HST.out _).mono ?_; rintro e w4 ⟨rfl, hb⟩; have HB4 := Lib.hid (show Below wc.heap.size wc w4 from (Below.refl _ _).drew.trans hb); clear hb)
        | (go_at_call 12; refine (HSO.out _).mono ?_; rintro e w5 ⟨rfl, rfl⟩))
    go_wp2
    go_ret
    have h := HG0.out.2.trans (HB4.out.mono HG0.out.2.size)
    exact ⟨rfl, (box_below w (.cells #[.int .i64 1, .int .i64 3, .int .i64 1, .int .u64 0] 24)).trans (h.mono (by simp))⟩
end Go.Proofs.Ytcnbbflgccdfjaa.Law16
