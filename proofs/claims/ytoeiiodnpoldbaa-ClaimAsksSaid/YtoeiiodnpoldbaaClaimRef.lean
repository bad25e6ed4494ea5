/- The document's answer for layer 24 (package sundialref24), on a tape that holds deeds already: just what a claimer asks for, and whether it has won. -/
import Derived.Test.YtoeiiodnpoldbaaTape
import Derived.Test.YtoeiiodnpoldbaaClaimMath
import Derived.Test.YtoeiiodnpoldbaaPlanRef
import Derived.Test.YtoeiiodnpoldbaaReferRef
import Derived.Test.YtoeiiodnpoldbaaStateRef
import Derived.Deep.RegionHeld3
namespace Go.Proofs.Ytoeiiodnpoldbaa.ClaimRef
set_option maxRecDepth 20000
open Go.ChangeShapes Go.WideShapes Go.RowKit CM DM PM KM ClM Runs Lay Plan Go.Proofs.Ytoeiiodnpoldbaa.Task Go.Proofs.Ytoeiiodnpoldbaa.Tape
set_option linter.unusedVariables false
set_option linter.unusedSimpArgs false

theorem plan4 {w w' : World} {N : Nat} {R : Nat → Prop} {T S L G : Int} (h : w.cell? ⟨N, 0, none⟩ = some (.int .i64 T) ∧ w.cell? ⟨N, 1, none⟩ = some (.int .i64 S) ∧ w.cell? ⟨N, 2, none⟩ = some (.int .i64 L) ∧ w.cell? ⟨N, 3, none⟩ = some (.int .u64 G)) (ho : Only R w w') (hr : ¬ R N) :
    w'.cell? ⟨N, 0, none⟩ = some (.int .i64 T) ∧ w'.cell? ⟨N, 1, none⟩ = some (.int .i64 S) ∧ w'.cell? ⟨N, 2, none⟩ = some (.int .i64 L) ∧ w'.cell? ⟨N, 3, none⟩ = some (.int .u64 G) :=
  ⟨ho.cell h.1 hr, ho.cell h.2.1 hr, ho.cell h.2.2.1 hr, ho.cell h.2.2.2 hr⟩
/-- What the document's claiming ends in. -/
def ClaimRan (P : Nat → Prop) (w : World) (x : Nat) (fs : List Int) (pre : List D) (T L r : Int) (e : Ending) (w' : World) : Prop :=
  ∃ s out, e = .returned (.bool s.wn) ∧ Fins (claimA T L r) (claimT r) fs pre ⟨false, false⟩ out s ∧ Tp P w' x fs out (claimA T L r s).isSome ∧ Only (fun k => ¬ P k) w w'
/-- The one deed. -/
theorem swap_ran {P : Nat → Prop} {x : Nat} {w : World} {fs : List Int} {pre : List D} (hT : Tp P w x fs pre false) (hle : pre.length ≤ fs.length) (T L r : Int) :
    Calls Try.prog 20 #[.pointer (some ⟨x, 0, none⟩), .int .i64 (atI T L (idx r) 0), .int .u64 (SM.stI (genI r) 2), .int .u64 (SM.stI (genI r) 3), .int .u64 0] w (ClaimRan P w x fs pre T L r) := by
  have ha : claimA T L r ⟨false, false⟩ = some (3, atI T L (idx r) 0, SM.stI (genI r) 2, SM.stI (genI r) 3, 0) := claimA_new
  by_cases hl : pre.length = fs.length
  · exact (Swap_last hT hl _ _ _ _).mono fun e w' ⟨a, b, c⟩ => ⟨_, _, a, (Amid.start hle _).last ha (by omega), by rw [ha]; exact b, c⟩
  · obtain ⟨f, hf⟩ : ∃ f, fs[pre.length]? = some f := ⟨_, List.getElem?_eq_getElem (by omega)⟩
    have hm := (Amid.start (ask := claimA T L r) (tell := claimT r) hle ⟨false, false⟩).more ha hf
    rw [claimT_new] at hm
    by_cases hfa : f = SM.stI (genI r) 2
    · subst hfa
      rw [decide_eq_true rfl] at hm
      exact (Swap_yes hT hf _ _ _).mono fun e w' ⟨a, b, c⟩ => ⟨_, _, a, hm.done claimA_done, b, c⟩
    · rw [decide_eq_false hfa] at hm
      exact (Swap_no hT hf hfa _ _ _).mono fun e w' ⟨a, b, c⟩ => ⟨_, _, a, hm.done claimA_done, b, c⟩
set_option maxHeartbeats 1000000 in
theorem Claim_runs {P : Nat → Prop} {x : Nat} {w : World} {fs : List Int} {pre : List D} (hT : Tp P w x fs pre false) (hle : pre.length ≤ fs.length) (T S L G r : Int) (hr : 0 ≤ r ∧ r < 18446744073709551616) : Calls Try.prog 8 #[.pointer (some ⟨x, 0, none⟩), .agg #[.int .i64 T, .int .i64 S, .int .i64 L, .int .u64 G], .int .u64 r] w (ClaimRan P w x fs pre T L r) := by
  have HLE := Lib.hid hle
  have HGN := Lib.hid fun W => Ref02.Gen_any r hr.1 hr.2 W
  have HIX := Lib.hid fun W => Ref02.Index_any r hr.1 hr.2 W
  have hg := gen_ok hr
  have HO2 := Lib.hid fun W => Ref04.Of_any (genI r) 2 hg.1 W
  have HO3 := Lib.hid fun W => Ref04.Of_any (genI r) 3 hg.1 W
  obtain ⟨P', hP'⟩ : ∃ P' : Nat → Prop, P' = fun k => P k ∨ k = w.heap.size := ⟨_, rfl⟩
  have HT := Lib.hid (show Tp P' (w.alloc (.cells #[.int .i64 T, .int .i64 S, .int .i64 L, .int .u64 G] 24)) x fs pre false from hP' ▸ hT.more _)
  have HLESS := Lib.hid (show ∀ e (wr W : World), ClaimRan P' W x fs pre T L r e wr → Only (fun k => ¬ P' k) (w.alloc (.cells #[.int .i64 T, .int .i64 S, .int .i64 L, .int .u64 G] 24)) W → ClaimRan P w x fs pre T L r e wr from fun e wr W h h2 => by
    subst hP'
    obtain ⟨s, out, h3, h4, h5, h6⟩ := h
    exact ⟨s, out, h3, h4, h5.less fun k q => .inl q, (only_alloc w _ (.cells #[.int .i64 T, .int .i64 S, .int .i64 L, .int .u64 G] 24)).trans ((h2.trans h6).wide fun k q => .inl fun z => q (.inl z))⟩)
  have HSW := Lib.hid (show ∀ W, Tp P' W x fs pre false → Calls Try.prog 20 #[.pointer (some ⟨x, 0, none⟩), .int .i64 (atI T L (idx r) 0), .int .u64 (SM.stI (genI r) 2), .int .u64 (SM.stI (genI r) 3), .int .u64 0] W (ClaimRan P' W x fs pre T L r) from fun W h => swap_ran h hle T L r)
  have HSL := Lib.hid fun W => PlanRef.Slot_any T S L G (idx r) 0 W
  have HB := Lib.hid (box4 w (.int .i64 T) (.int .i64 S) (.int .i64 L) (.int .u64 G) 24)
  have HSE := Lib.hid (show ∀ e (wr W : World), ClaimRan P' W x fs pre T L r e wr → Only (fun k => ¬ P' k) (w.alloc (.cells #[.int .i64 T, .int .i64 S, .int .i64 L, .int .u64 G] 24)) W → ∃ v : Bool, e = .returned (.bool v) ∧ Hid (ClaimRan P w x fs pre T L r (.returned (.bool v)) wr) ∧ Hid ((fun W : World => W.cell? ⟨w.heap.size, 0, none⟩ = some (.int .i64 T) ∧ W.cell? ⟨w.heap.size, 1, none⟩ = some (.int .i64 S) ∧ W.cell? ⟨w.heap.size, 2, none⟩ = some (.int .i64 L) ∧ W.cell? ⟨w.heap.size, 3, none⟩ = some (.int .u64 G)) wr) from fun e wr W h h2 => by
    have hn : ¬ (fun k => ¬ P' k) w.heap.size := fun q => q (by rw [hP']; exact .inr rfl)
    obtain ⟨s, out, h3, h4, h5, h6⟩ := h
    subst h3
    exact ⟨s.wn, rfl, Lib.hid (HLESS.out _ _ _ ⟨s, out, rfl, h4, h5, h6⟩ h2), Lib.hid (plan4 HB.out (h2.trans h6) hn)⟩)
  obtain ⟨c_0, c_1, c_2, c_3⟩ := box4 w (.int .i64 T) (.int .i64 S) (.int .i64 L) (.int .u64 G) 24
  rw [show r / 4294967296 = genI r from rfl] at HGN
  rw [show r % 4294967296 / 2 = idx r from rfl] at HIX
  obtain ⟨g0, g1⟩ := hg
  generalize genI r = g at HGN HO2 HO3 HSW g0 g1
  generalize atI T L (idx r) 0 = pl at HSL HSW
  generalize idx r = i at HIX HSL
  clear hT hle hr hP'
  go_enter Try.func8, Try.ntmps8
  go_wp2_with fail
  refine (HGN.out _).mono ?_
  rintro e w1 ⟨rfl, rfl⟩
  have HS0 := Lib.hid (show (fun W : World => W.cell? ⟨w.heap.size, 0, none⟩ = some (.int .i64 T) ∧ W.cell? ⟨w.heap.size, 1, none⟩ = some (.int .i64 S) ∧ W.cell? ⟨w.heap.size, 2, none⟩ = some (.int .i64 L) ∧ W.cell? ⟨w.heap.size, 3, none⟩ = some (.int .u64 G)) (w.alloc (.cells #[.int .i64 T, .int .i64 S, .int .i64 L, .int .u64 G] 24)).drew from HB.out)
  go_wp2_with fail
  go_region_held3 (fun W => W.cell? ⟨w.heap.size, 0, none⟩ = some (.int .i64 T) ∧ W.cell? ⟨w.heap.size, 1, none⟩ = some (.int .i64 S) ∧ W.cell? ⟨w.heap.size, 2, none⟩ = some (.int .i64 L) ∧ W.cell? ⟨w.heap.size, 3, none⟩ = some (.int .u64 G))
    ((first | (with_reducible exact HS0.out) | (with_reducible assumption) | (with_reducible exact HS2.out) | (with_reducible exact HS3.out)))
    (first
      | (go_at_call 22; refine (HIX.out _).mono ?_; rintro e w2 ⟨rfl, rfl⟩)
      | (go_at_call 21; refine (HSL.out _).mono ?_; rintro e w2 ⟨rfl, hb⟩; have HB2 := Lib.hid ((Below.refl (w.alloc (.cells #[.int .i64 T, .int .i64 S, .int .i64 L, .int .u64 G] 24)).heap.size (w.alloc (.cells #[.int .i64 T, .int .i64 S, .int .i64 L, .int .u64 G] 24))).drew.trans hb); have HT2 := Lib.hid (HT.out.later HB2.out); have HS2 := Lib.hid (plan4 HB.out (only_below (fun _ => False) HB2.out) id); clear hb)
      | (go_at_call 23; refine (HO2.out _).mono ?_; rintro e w2 ⟨rfl, rfl⟩)
      | (go_at_call 23; refine (HO3.out _).mono ?_; rintro e w2 ⟨rfl, rfl⟩)
      | (go_at_call 20; refine (HSW.out _ HT2.out).mono ?_; rintro e w3 hc; obtain ⟨v, hv, HE3, HS3⟩ := HSE.out _ _ _ hc (only_below _ HB2.out); subst hv; clear hc))
  go_wp2
  go_ret
  exact HE3.out
theorem Claim_run {P : Nat → Prop} {x : Nat} {w : World} {fs : List Int} (hT : Tp P w x fs [] false) (T S L G r : Int) (hr : 0 ≤ r ∧ r < 18446744073709551616) : Calls Try.prog 8 #[.pointer (some ⟨x, 0, none⟩), .agg #[.int .i64 T, .int .i64 S, .int .i64 L, .int .u64 G], .int .u64 r] w fun e w' =>
    ∃ s out, e = .returned (.bool s.wn) ∧ Fin (claimA T L r) (claimT r) fs ⟨false, false⟩ out s ∧ Tp P w' x fs out (claimA T L r s).isSome ∧ Only (fun k => ¬ P k) w w' :=
  Claim_runs hT (Nat.zero_le _) T S L G r hr
end Go.Proofs.Ytoeiiodnpoldbaa.ClaimRef
