/- Law 24's example. -/
import Derived.Test.YtoeiiodnpoldbaaDoorClaimWalks
import Derived.Test.YtoeiiodnpoldbaaDoorTaskEq
import Derived.Deep.DeepCutAuto
import Derived.Deep.RegionHeld3
namespace Go.Proofs.YtoeiiodnpoldbaaDoor.Law24
set_option maxRecDepth 20000
open Go.ChangeShapes Go.WideShapes Go.ChangeAt Go.RowKit CM DM PM KM ClM Runs Lay Plan Go.Proofs.YtoeiiodnpoldbaaDoor.Task
open Go.Proofs.YtoeiiodnpoldbaaDoor.Clm (Claims Claim_any Claim_next Claim_tell Won_cell)
set_option linter.unusedVariables false
set_option linter.unusedSimpArgs false

theorem wf_u64 {a : Int} (h : (Lit.int .u64 a).wf = true) : 0 ≤ a ∧ a < 18446744073709551616 := by
  simp [Lit.wf, IntKind.min, IntKind.max, IntKind.signed, IntKind.bits] at h; omega
theorem wf_i64 {a : Int} (h : (Lit.int .i64 a).wf = true) : -9223372036854775808 ≤ a ∧ a ≤ 9223372036854775807 := by
  simp [Lit.wf, IntKind.min, IntKind.max, IntKind.signed, IntKind.bits] at h; omega
theorem plan4 {w w' : World} {N : Nat} {R : Nat → Prop} {T S L G : Int} (h : w.cell? ⟨N, 0, none⟩ = some (.int .i64 T) ∧ w.cell? ⟨N, 1, none⟩ = some (.int .i64 S) ∧ w.cell? ⟨N, 2, none⟩ = some (.int .i64 L) ∧ w.cell? ⟨N, 3, none⟩ = some (.int .u64 G)) (ho : Only R w w') (hr : ¬ R N) :
    w'.cell? ⟨N, 0, none⟩ = some (.int .i64 T) ∧ w'.cell? ⟨N, 1, none⟩ = some (.int .i64 S) ∧ w'.cell? ⟨N, 2, none⟩ = some (.int .i64 L) ∧ w'.cell? ⟨N, 3, none⟩ = some (.int .u64 G) :=
  ⟨ho.cell h.1 hr, ho.cell h.2.1 hr, ho.cell h.2.2.1 hr, ho.cell h.2.2.2 hr⟩
theorem ba (w : World) (o : Obj) : Below w.heap.size w (w.alloc o) := (Below.refl _ _).alloc (Nat.le_refl _) _
theorem chain {w a b : World} (h : Below w.heap.size w a) (k : Below a.heap.size a b) : Below w.heap.size w b := h.trans (k.mono h.size)
/-- A box of five words in a new block, later. -/
theorem five_later {w w' : World} {v0 v1 v2 v3 v4 : Value} {t : TypeId} {R : Nat → Prop} (ho : Only R (w.alloc (.cells #[v0, v1, v2, v3, v4] t)) w') (hr : ¬ R w.heap.size) :
    w'.cell? ⟨w.heap.size, 0, none⟩ = some v0 ∧ w'.cell? ⟨w.heap.size, 1, none⟩ = some v1 ∧ w'.cell? ⟨w.heap.size, 2, none⟩ = some v2 ∧ w'.cell? ⟨w.heap.size, 3, none⟩ = some v3 ∧ w'.cell? ⟨w.heap.size, 4, none⟩ = some v4 := by
  have hb := ho.heap (new_heap w (.cells #[v0, v1, v2, v3, v4] t)) hr
  exact ⟨(cell_heap hb 0).1, (cell_heap hb 1).1, (cell_heap hb 2).1, (cell_heap hb 3).1, (cell_heap hb 4).1⟩
theorem made {w W : World} {p : Nat} (hp : (w.alloc (.cells #[.int .i64 1, .int .i64 3, .int .i64 1, .int .u64 0] 24)).drew.heap.size ≤ p) (hb : Below (w.alloc (.cells #[.int .i64 1, .int .i64 3, .int .i64 1, .int .u64 0] 24)).drew.heap.size (w.alloc (.cells #[.int .i64 1, .int .i64 3, .int .i64 1, .int .u64 0] 24)).drew W) : w.heap.size + 1 ≤ p ∧ Below (w.alloc (.cells #[.int .i64 1, .int .i64 3, .int .i64 1, .int .u64 0] 24)).heap.size (w.alloc (.cells #[.int .i64 1, .int .i64 3, .int .i64 1, .int .u64 0] 24)) W :=
  ⟨by simp only [World.drew, World.size_alloc] at hp; exact hp, (Below.refl _ _).drew.trans hb⟩
/-- The example's numbers. -/
theorem ex_a : claimA 1 1 12884901892 ⟨false, false⟩ = some (3, atI 1 1 2 0, 12884901890, 12884901891, 0) := rfl
theorem ex_1 : claimT 12884901892 ⟨false, false⟩ 12884901890 = ⟨true, true⟩ := by
  rw [claimT_new]
  exact congrArg (St.mk true) (decide_eq_true (by decide))
theorem ex_2 : claimT 12884901892 ⟨false, false⟩ 17179869186 = ⟨true, false⟩ := by
  rw [claimT_new]
  exact congrArg (St.mk true) (decide_eq_false (by decide))
theorem stay11 {w W W' : World} {k p q : Nat} {pl : Int} (hb : Below W.heap.size W W') (h : (W.cell? ⟨w.heap.size, 0, none⟩ = some (.int .i64 1) ∧ W.cell? ⟨w.heap.size, 1, none⟩ = some (.int .i64 3) ∧ W.cell? ⟨w.heap.size, 2, none⟩ = some (.int .i64 1) ∧ W.cell? ⟨w.heap.size, 3, none⟩ = some (.int .u64 0)) ∧ (W.cell? ⟨k, 0, none⟩ = some (.int .i64 3) ∧ W.cell? ⟨k, 1, none⟩ = some (.int .i64 pl) ∧ W.cell? ⟨k, 2, none⟩ = some (.int .u64 12884901890) ∧ W.cell? ⟨k, 3, none⟩ = some (.int .u64 12884901891) ∧ W.cell? ⟨k, 4, none⟩ = some (.int .u64 0)) ∧ W.cell? ⟨p, 7, none⟩ = some (.bool true) ∧ W.cell? ⟨q, 7, none⟩ = some (.bool false)) : (fun W : World => (W.cell? ⟨w.heap.size, 0, none⟩ = some (.int .i64 1) ∧ W.cell? ⟨w.heap.size, 1, none⟩ = some (.int .i64 3) ∧ W.cell? ⟨w.heap.size, 2, none⟩ = some (.int .i64 1) ∧ W.cell? ⟨w.heap.size, 3, none⟩ = some (.int .u64 0)) ∧ (W.cell? ⟨k, 0, none⟩ = some (.int .i64 3) ∧ W.cell? ⟨k, 1, none⟩ = some (.int .i64 pl) ∧ W.cell? ⟨k, 2, none⟩ = some (.int .u64 12884901890) ∧ W.cell? ⟨k, 3, none⟩ = some (.int .u64 12884901891) ∧ W.cell? ⟨k, 4, none⟩ = some (.int .u64 0)) ∧ W.cell? ⟨p, 7, none⟩ = some (.bool true) ∧ W.cell? ⟨q, 7, none⟩ = some (.bool false)) W' := by
  obtain ⟨⟨a0, a1, a2, a3⟩, ⟨b0, b1, b2, b3, b4⟩, c, d⟩ := h
  exact ⟨⟨cell_later hb a0, cell_later hb a1, cell_later hb a2, cell_later hb a3⟩, ⟨cell_later hb b0, cell_later hb b1, cell_later hb b2, cell_later hb b3, cell_later hb b4⟩, cell_later hb c, cell_later hb d⟩
set_option maxHeartbeats 2000000 in
theorem awake_any (w : World) : Calls Tryd.prog 5 #[] w fun e w' => e = .returned (.bool true) ∧ Below w.heap.size w w' := by
  have HB0 := Lib.hid (box_below w (.cells #[.int .i64 1, .int .i64 3, .int .i64 1, .int .u64 0] 24))
  have HC := Lib.hid (box4 w (.int .i64 1) (.int .i64 3) (.int .i64 1) (.int .u64 0) 24)
  have HOF := Lib.hid (show ∀ W : World, Calls Tryd.prog 23 #[.int .u64 3, .int .i64 2] W fun e w' => e = .returned (.int .u64 12884901892) ∧ W = w' from fun W => Refer.Of_any 3 2 (by decide) W)
  have HL3 := Lib.hid (show ∀ W : World, Calls Tryd.prog 13 #[.int .u64 3, .int .i64 2] W fun e w' => e = .returned (.int .u64 12884901890) ∧ W = w' from fun W => State.Of_any 3 2 (by decide) W)
  have HT3 := Lib.hid (show ∀ W : World, Calls Tryd.prog 13 #[.int .u64 3, .int .i64 3] W fun e w' => e = .returned (.int .u64 12884901891) ∧ W = w' from fun W => State.Of_any 3 3 (by decide) W)
  have HL4 := Lib.hid (show ∀ W : World, Calls Tryd.prog 13 #[.int .u64 4, .int .i64 2] W fun e w' => e = .returned (.int .u64 17179869186) ∧ W = w' from fun W => State.Of_any 4 2 (by decide) W)
  obtain ⟨c_0, c_1, c_2, c_3⟩ := HC.out
  go_enter Tryd.func5, Tryd.ntmps5
  go_upto_region 2 with fail
  go_cut [2, 3] (fun s2 s3 wx => ∃ p q, s2 = .pointer (some ⟨p, 0, none⟩) ∧ s3 = .pointer (some ⟨q, 0, none⟩) ∧ Claims wx p 1 3 1 0 12884901892 ⟨false, false⟩ ∧ Claims wx q 1 3 1 0 12884901892 ⟨false, false⟩ ∧ w.heap.size + 1 ≤ p ∧ p < q ∧ Below (w.alloc (.cells #[.int .i64 1, .int .i64 3, .int .i64 1, .int .u64 0] 24)).heap.size (w.alloc (.cells #[.int .i64 1, .int .i64 3, .int .i64 1, .int .u64 0] 24)) wx)
  case first =>
    have HS0 := Lib.hid (show (fun W : World => W.cell? ⟨w.heap.size, 0, none⟩ = some (.int .i64 1) ∧ W.cell? ⟨w.heap.size, 1, none⟩ = some (.int .i64 3) ∧ W.cell? ⟨w.heap.size, 2, none⟩ = some (.int .i64 1) ∧ W.cell? ⟨w.heap.size, 3, none⟩ = some (.int .u64 0)) (w.alloc (.cells #[.int .i64 1, .int .i64 3, .int .i64 1, .int .u64 0] 24)).drew from HC.out)
    go_region_held3 (fun W => W.cell? ⟨w.heap.size, 0, none⟩ = some (.int .i64 1) ∧ W.cell? ⟨w.heap.size, 1, none⟩ = some (.int .i64 3) ∧ W.cell? ⟨w.heap.size, 2, none⟩ = some (.int .i64 1) ∧ W.cell? ⟨w.heap.size, 3, none⟩ = some (.int .u64 0))
      ((first | (with_reducible exact HS0.out) | (with_reducible assumption) | (with_reducible exact HS2.out) | (with_reducible exact HS3.out)))
      (first
        | (go_at_call 23; refine (HOF.out _).mono ?_; rintro e w2 ⟨rfl, rfl⟩)
        | (go_at_call 9; have HM2' := HM2.out; refine (Claim_any 1 3 1 0 12884901892 ⟨by decide, by decide⟩ _).mono ?_; rintro e w3 ⟨q, rfl, m3, q3, b3⟩; have HM3 := Lib.hid m3; have HM23 := Lib.hid (HM2'.later b3); have HPQ := Lib.hid (Nat.lt_of_lt_of_le HM2'.lt q3); have HQ3 := Lib.hid (show w.heap.size + 1 ≤ p ∧ Below (w.alloc (.cells #[.int .i64 1, .int .i64 3, .int .i64 1, .int .u64 0] 24)).heap.size (w.alloc (.cells #[.int .i64 1, .int .i64 3, .int .i64 1, .int .u64 0] 24)) w3 from ⟨HQ2.out.1, HQ2.out.2.trans (b3.mono HQ2.out.2.size)⟩); have HS3 := Lib.hid (box4_later (by have h := HQ3.out.2; rwa [World.size_alloc] at h)); clear m3 q3 b3 HM2')
        | (go_at_call 9; refine (Claim_any 1 3 1 0 12884901892 ⟨by decide, by decide⟩ _).mono ?_; rintro e w2 ⟨p, rfl, m2, p2, b2⟩; have HM2 := Lib.hid m2; have HQ2 := Lib.hid (made p2 b2); have HS2 := Lib.hid (box4_later (by have h := HQ2.out.2; rwa [World.size_alloc] at h)); clear m2 p2 b2))
    all_goals go_wp2_with fail
    all_goals go_meet
    all_goals (case rel => exact ⟨_, _, rfl, rfl, HM23.out, HM3.out, HQ3.out.1, HPQ.out, HQ3.out.2⟩)
  obtain ⟨p, q, rfl, rfl, m1, n1, p1, pq, b1⟩ := hcut
  rename_i w1
  have HM1 := Lib.hid m1
  have HN1 := Lib.hid n1
  have HP1 := Lib.hid (show w.heap.size + 1 ≤ p ∧ p < q from ⟨p1, pq⟩)
  have HB1 := Lib.hid b1
  have HNA := Lib.hid (Claim_next m1)
  rw [ex_a] at HNA
  have HST := Lib.hid fun W => Plan.State_any 1 3 1 0 2 W
  generalize atI 1 1 2 0 = pl at HNA HST
  clear m1 n1 p1 pq b1 c_0 c_1 c_2 c_3
  go_wp2_with fail
  refine HNA.out.mono ?_
  rintro e w2 ⟨rfl, b2⟩
  simp only [Option.getD_some, Option.isSome_some]
  have hb2 := chain b2 (ba w2 (.cells #[.int .i64 3, .int .i64 pl, .int .u64 12884901890, .int .u64 12884901891, .int .u64 0] 39))
  have HB2 := Lib.hid (show Below (w.alloc (.cells #[.int .i64 1, .int .i64 3, .int .i64 1, .int .u64 0] 24)).heap.size (w.alloc (.cells #[.int .i64 1, .int .i64 3, .int .i64 1, .int .u64 0] 24)) (w2.alloc (.cells #[.int .i64 3, .int .i64 pl, .int .u64 12884901890, .int .u64 12884901891, .int .u64 0] 39)) from chain HB1.out hb2)
  have HM2 := Lib.hid (HM1.out.later hb2)
  have HN2 := Lib.hid (HN1.out.later hb2)
  have HZ2 := Lib.hid (show ¬ w2.heap.size = p ∧ ¬ w2.heap.size = q by have h1 := HM1.out.lt; have h2 := HN1.out.lt; have h3 := b2.size; omega)
  clear b2 hb2 HM1 HN1 HB1
  go_wp2_with fail
  refine (HL3.out _).mono ?_
  rintro e w3 ⟨rfl, rfl⟩
  go_wp2_with fail
  refine (Claim_tell HM2.out (show (0 : Int) ≤ 12884901890 ∧ (12884901890 : Int) < 18446744073709551616 by decide)).mono ?_
  rintro e w3 ⟨rfl, m3, o3⟩
  rw [ex_1] at m3
  have HM3 := Lib.hid m3
  have HN3 := Lib.hid (HN2.out.only o3 (show ¬ q = p by have := HP1.out; omega))
  have HO3 := Lib.hid o3
  have HB3 := Lib.hid (show Below (w.alloc (.cells #[.int .i64 1, .int .i64 3, .int .i64 1, .int .u64 0] 24)).heap.size (w.alloc (.cells #[.int .i64 1, .int .i64 3, .int .i64 1, .int .u64 0] 24)) w3 from HB2.out.trans (o3.below HB2.out.size fun k e => by have := HP1.out; subst e; simp only [World.size_alloc]; omega))
  clear m3 o3 HM2 HN2
  go_wp2_with fail
  refine (HL4.out _).mono ?_
  rintro e w4 ⟨rfl, rfl⟩
  go_wp2_with fail
  refine (Claim_tell HN3.out (show (0 : Int) ≤ 17179869186 ∧ (17179869186 : Int) < 18446744073709551616 by decide)).mono ?_
  rintro e w4 ⟨rfl, n4, o4⟩
  rw [ex_2] at n4
  have HN4 := Lib.hid n4
  have HM4 := Lib.hid (HM3.out.only o4 (show ¬ p = q by have := HP1.out; omega))
  have HB4 := Lib.hid (show Below (w.alloc (.cells #[.int .i64 1, .int .i64 3, .int .i64 1, .int .u64 0] 24)).heap.size (w.alloc (.cells #[.int .i64 1, .int .i64 3, .int .i64 1, .int .u64 0] 24)) w4 from HB3.out.trans (o4.below HB3.out.size fun k e => by have := HP1.out; subst e; simp only [World.size_alloc]; omega))
  have HA4 := Lib.hid (five_later (R := fun k => k = p ∨ k = q) ((HO3.out.wide fun k e => .inl (.inl e)).trans (o4.wide fun k e => .inl (.inr e))) (fun e => e.elim HZ2.out.1 HZ2.out.2))
  have HNB := Lib.hid (Claim_next n4)
  rw [claimA_done] at HNB
  clear n4 o4 HM3 HN3 HO3 HB2 HB3
  go_wp2_with fail
  refine HNB.out.mono ?_
  rintro e w5 ⟨rfl, b5⟩
  simp only [Option.getD_none, Option.isSome_none]
  have hb5 := chain b5 (ba w5 (.cells #[.int .i64 0, .int .i64 0, .int .u64 0, .int .u64 0, .int .u64 0] 39))
  have HB5 := Lib.hid (chain HB4.out hb5)
  have HSX := Lib.hid (show (fun W : World => (W.cell? ⟨w.heap.size, 0, none⟩ = some (.int .i64 1) ∧ W.cell? ⟨w.heap.size, 1, none⟩ = some (.int .i64 3) ∧ W.cell? ⟨w.heap.size, 2, none⟩ = some (.int .i64 1) ∧ W.cell? ⟨w.heap.size, 3, none⟩ = some (.int .u64 0)) ∧ (W.cell? ⟨w2.heap.size, 0, none⟩ = some (.int .i64 3) ∧ W.cell? ⟨w2.heap.size, 1, none⟩ = some (.int .i64 pl) ∧ W.cell? ⟨w2.heap.size, 2, none⟩ = some (.int .u64 12884901890) ∧ W.cell? ⟨w2.heap.size, 3, none⟩ = some (.int .u64 12884901891) ∧ W.cell? ⟨w2.heap.size, 4, none⟩ = some (.int .u64 0)) ∧ W.cell? ⟨p, 7, none⟩ = some (.bool true) ∧ W.cell? ⟨q, 7, none⟩ = some (.bool false)) (w5.alloc (.cells #[.int .i64 0, .int .i64 0, .int .u64 0, .int .u64 0, .int .u64 0] 39)) from by
    obtain ⟨a0, a1, a2, a3, a4⟩ := HA4.out
    have h := HB5.out
    rw [World.size_alloc] at h
    have h0 := box4_later h
    exact ⟨h0, ⟨cell_later hb5 a0, cell_later hb5 a1, cell_later hb5 a2, cell_later hb5 a3, cell_later hb5 a4⟩, (HM4.out.later hb5).1.cells.2.2.2.2.2.2.2, (HN4.out.later hb5).1.cells.2.2.2.2.2.2.2⟩)
  have N1 := fun W => eqlD (3, pl, 12884901890, 12884901891, 0) (3, pl, 12884901890, 12884901891, 0) W
  have hg := guardD
  simp only [decide_true] at N1
  have HEND := Lib.hid (show ∀ W, Below (w5.alloc (.cells #[.int .i64 0, .int .i64 0, .int .u64 0, .int .u64 0, .int .u64 0] 39)).heap.size (w5.alloc (.cells #[.int .i64 0, .int .i64 0, .int .u64 0, .int .u64 0, .int .u64 0] 39)) W → Below w.heap.size w W from fun W hb => HB0.out.trans ((chain HB5.out hb).mono HB0.out.size))
  generalize hk : w2.heap.size = k at HSX ⊢
  have HS0 := Lib.hid (show (fun W : World => (W.cell? ⟨w.heap.size, 0, none⟩ = some (.int .i64 1) ∧ W.cell? ⟨w.heap.size, 1, none⟩ = some (.int .i64 3) ∧ W.cell? ⟨w.heap.size, 2, none⟩ = some (.int .i64 1) ∧ W.cell? ⟨w.heap.size, 3, none⟩ = some (.int .u64 0)) ∧ (W.cell? ⟨k, 0, none⟩ = some (.int .i64 3) ∧ W.cell? ⟨k, 1, none⟩ = some (.int .i64 pl) ∧ W.cell? ⟨k, 2, none⟩ = some (.int .u64 12884901890) ∧ W.cell? ⟨k, 3, none⟩ = some (.int .u64 12884901891) ∧ W.cell? ⟨k, 4, none⟩ = some (.int .u64 0)) ∧ W.cell? ⟨p, 7, none⟩ = some (.bool true) ∧ W.cell? ⟨q, 7, none⟩ = some (.bool false)) (w5.alloc (.cells #[.int .i64 0, .int .i64 0, .int .u64 0, .int .u64 0, .int .u64 0] 39)).drew from HSX.out)
  have HWA := Lib.hid (Won_cell HS0.out.2.2.1)
  have HWB := Lib.hid (Won_cell HS0.out.2.2.2)
  clear b5 hb5 HA4 HM4 HN4 HNB hk
  go_wp2_with fail
  go_region_held3 (fun W => (W.cell? ⟨w.heap.size, 0, none⟩ = some (.int .i64 1) ∧ W.cell? ⟨w.heap.size, 1, none⟩ = some (.int .i64 3) ∧ W.cell? ⟨w.heap.size, 2, none⟩ = some (.int .i64 1) ∧ W.cell? ⟨w.heap.size, 3, none⟩ = some (.int .u64 0)) ∧ (W.cell? ⟨k, 0, none⟩ = some (.int .i64 3) ∧ W.cell? ⟨k, 1, none⟩ = some (.int .i64 pl) ∧ W.cell? ⟨k, 2, none⟩ = some (.int .u64 12884901890) ∧ W.cell? ⟨k, 3, none⟩ = some (.int .u64 12884901891) ∧ W.cell? ⟨k, 4, none⟩ = some (.int .u64 0)) ∧ W.cell? ⟨p, 7, none⟩ = some (.bool true) ∧ W.cell? ⟨q, 7, none⟩ = some (.bool false))
    ((first | (with_reducible exact HS0.out) | (with_reducible assumption) | (with_reducible exact HS6.out)))
    (first
      | (go_at_call 15; with_reducible refine (HWA.out).mono ?_; rintro e w6 ⟨rfl, rfl⟩)
      | (go_at_call 15; with_reducible refine (HWB.out).mono ?_; rintro e w6 ⟨rfl, rfl⟩)
      | (go_at_call 13; with_reducible refine (HL3.out _).mono ?_; rintro e w6 ⟨rfl, rfl⟩)
      | (go_at_call 13; with_reducible refine (HT3.out _).mono ?_; rintro e w6 ⟨rfl, rfl⟩)
      | (go_at_call 7; refine (HST.out _).mono ?_; rintro e w6 ⟨rfl, b6⟩; have HB6 := Lib.hid ((Below.refl _ _).drew.trans b6); have HS6 := Lib.hid (stay11 b6 HS0.out); clear b6))
  go_wp2
  go_ret
  exact ⟨rfl, HEND.out _ HB6.out⟩
end Go.Proofs.YtoeiiodnpoldbaaDoor.Law24
