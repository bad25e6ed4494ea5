/- A marker (package mark, layer 22): what it becomes when it is told what was found. -/
import Derived.Test.YtpefngpmbladeaaDoorMarkWalks
namespace Go.Proofs.YtpefngpmbladeaaDoor.Mk
set_option maxRecDepth 20000
open Go.ChangeShapes Go.WideShapes Go.RowKit CM DM PM KM MkM Lay Plan Go.Proofs.YtpefngpmbladeaaDoor.Task
set_option linter.unusedVariables false
set_option linter.unusedSimpArgs false
theorem tell_done {w : World} {p : Nat} {T N L G r st wy f : Int} (h : Raw w p T N L G r 0 st wy) : Calls Tryd.prog 14 #[.pointer (some ⟨p, 0, none⟩), .int .u64 f] w fun e w' => e = .returned (.tuple #[]) ∧ w = w' := by
  have HD := Lib.hid (done_any h)
  clear h
  go_enter Tryd.func14, Tryd.ntmps14
  go_wp2_with fail
  refine (HD.out).mono ?_
  rintro e w' ⟨rfl, rfl⟩
  go_wp2
  exact bodyPost_ret (v := .tuple #[]) (results_none rfl _ _ _) rfl ⟨rfl, rfl⟩
theorem tell_on {w : World} {p : Nat} {T N L G r lf wy f : Int} (h : Raw w p T N L G r lf 0 wy) (hl : ¬ lf = 0) (hm : -9223372036854775808 ≤ lf - 1 ∧ lf - 1 ≤ 9223372036854775807) (h01 : 0 ≤ f ∧ f < 18446744073709551616) (hf : f % 2 = 1) : Calls Tryd.prog 14 #[.pointer (some ⟨p, 0, none⟩), .int .u64 f] w fun e w' => e = .returned (.tuple #[]) ∧ Raw w' p T N L G r (lf - 1) 0 (wy) ∧ Only (fun k => k = p) w w' := by
  have HD := Lib.hid (show Calls Tryd.prog 27 #[.pointer (some ⟨p, 0, none⟩)] w fun e w' => e = .returned (.bool false) ∧ w = w' from by
    have h := done_any h
    rwa [decide_eq_false hl] at h)
  have HMK := Lib.hid fun W => Refer.Marked_any f h01.1 h01.2 W
  have hwr : IntKind.i64.wrap (lf - 1) = lf - 1 := by rw [IntKind.wrap_i64]; omega
  have HE := Lib.hid (And.intro ((h.set_lf (lf - 1)).set_st 0) ((only_set w p 5 (.int .i64 (lf - 1))).trans (only_set _ p 6 (.int .i64 0))))
  obtain ⟨-, -, -, -, -, e5, e6, e7⟩ := h.cells
  have f5 := h.thawed 5
  have f6 := h.thawed 6
  have f7 := h.thawed 7
  have f56 := fun u => (h.set_lf u).thawed 6
  have f67 := fun u => (h.set_st u).thawed 7
  rw [decide_eq_true hf] at HMK
  clear h h01 hf hl hm
  go_enter Tryd.func14, Tryd.ntmps14
  go_wp2_with fail
  refine (HD.out).mono ?_
  rintro e w' ⟨rfl, rfl⟩
  go_wp2_with fail
  refine (HMK.out _).mono ?_
  rintro e w' ⟨rfl, rfl⟩
  go_wp2
  refine bodyPost_end (results_none rfl _ _ _) rfl ?_
  exact ⟨rfl, HE.out⟩
theorem tell_to {w : World} {p : Nat} {T N L G r lf wy f : Int} (h : Raw w p T N L G r lf 0 wy) (hl : ¬ lf = 0) (hm : -9223372036854775808 ≤ lf - 1 ∧ lf - 1 ≤ 9223372036854775807) (h01 : 0 ≤ f ∧ f < 18446744073709551616) (hf : ¬ f % 2 = 1) : Calls Tryd.prog 14 #[.pointer (some ⟨p, 0, none⟩), .int .u64 f] w fun e w' => e = .returned (.tuple #[]) ∧ Raw w' p T N L G r (lf) 1 (f) ∧ Only (fun k => k = p) w w' := by
  have HD := Lib.hid (show Calls Tryd.prog 27 #[.pointer (some ⟨p, 0, none⟩)] w fun e w' => e = .returned (.bool false) ∧ w = w' from by
    have h := done_any h
    rwa [decide_eq_false hl] at h)
  have HMK := Lib.hid fun W => Refer.Marked_any f h01.1 h01.2 W
  have hwr : IntKind.i64.wrap (lf - 1) = lf - 1 := by rw [IntKind.wrap_i64]; omega
  have HE := Lib.hid (And.intro ((h.set_st 1).set_wy f) ((only_set w p 6 (.int .i64 1)).trans (only_set _ p 7 (.int .u64 f))))
  obtain ⟨-, -, -, -, -, e5, e6, e7⟩ := h.cells
  have f5 := h.thawed 5
  have f6 := h.thawed 6
  have f7 := h.thawed 7
  have f56 := fun u => (h.set_lf u).thawed 6
  have f67 := fun u => (h.set_st u).thawed 7
  rw [decide_eq_false hf] at HMK
  clear h h01 hf hl hm
  go_enter Tryd.func14, Tryd.ntmps14
  go_wp2_with fail
  refine (HD.out).mono ?_
  rintro e w' ⟨rfl, rfl⟩
  go_wp2_with fail
  refine (HMK.out _).mono ?_
  rintro e w' ⟨rfl, rfl⟩
  go_wp2
  refine bodyPost_end (results_none rfl _ _ _) rfl ?_
  exact ⟨rfl, HE.out⟩
theorem tell_won {w : World} {p : Nat} {T N L G r lf wy f : Int} (h : Raw w p T N L G r lf 1 wy) (hl : ¬ lf = 0) (hm : -9223372036854775808 ≤ lf - 1 ∧ lf - 1 ≤ 9223372036854775807) (h01 : 0 ≤ f ∧ f < 18446744073709551616) (hf : f = wy) : Calls Tryd.prog 14 #[.pointer (some ⟨p, 0, none⟩), .int .u64 f] w fun e w' => e = .returned (.tuple #[]) ∧ Raw w' p T N L G r (lf - 1) 0 (wy) ∧ Only (fun k => k = p) w w' := by
  have HD := Lib.hid (show Calls Tryd.prog 27 #[.pointer (some ⟨p, 0, none⟩)] w fun e w' => e = .returned (.bool false) ∧ w = w' from by
    have h := done_any h
    rwa [decide_eq_false hl] at h)
  have HMK := Lib.hid fun W => Refer.Marked_any f h01.1 h01.2 W
  have hwr : IntKind.i64.wrap (lf - 1) = lf - 1 := by rw [IntKind.wrap_i64]; omega
  have HE := Lib.hid (And.intro ((h.set_lf (lf - 1)).set_st 0) ((only_set w p 5 (.int .i64 (lf - 1))).trans (only_set _ p 6 (.int .i64 0))))
  obtain ⟨-, -, -, -, -, e5, e6, e7⟩ := h.cells
  have f5 := h.thawed 5
  have f6 := h.thawed 6
  have f7 := h.thawed 7
  have f56 := fun u => (h.set_lf u).thawed 6
  have f67 := fun u => (h.set_st u).thawed 7
  have hfw : (f == wy) = true := by simpa using hf
  clear h h01 hf hl hm
  go_enter Tryd.func14, Tryd.ntmps14
  go_wp2_with fail
  refine (HD.out).mono ?_
  rintro e w' ⟨rfl, rfl⟩
  go_wp2
  refine bodyPost_end (results_none rfl _ _ _) rfl ?_
  exact ⟨rfl, HE.out⟩
theorem tell_lost {w : World} {p : Nat} {T N L G r lf wy f : Int} (h : Raw w p T N L G r lf 1 wy) (hl : ¬ lf = 0) (hm : -9223372036854775808 ≤ lf - 1 ∧ lf - 1 ≤ 9223372036854775807) (h01 : 0 ≤ f ∧ f < 18446744073709551616) (hf : ¬ f = wy) : Calls Tryd.prog 14 #[.pointer (some ⟨p, 0, none⟩), .int .u64 f] w fun e w' => e = .returned (.tuple #[]) ∧ Raw w' p T N L G r (lf) 0 (wy) ∧ Only (fun k => k = p) w w' := by
  have HD := Lib.hid (show Calls Tryd.prog 27 #[.pointer (some ⟨p, 0, none⟩)] w fun e w' => e = .returned (.bool false) ∧ w = w' from by
    have h := done_any h
    rwa [decide_eq_false hl] at h)
  have HMK := Lib.hid fun W => Refer.Marked_any f h01.1 h01.2 W
  have hwr : IntKind.i64.wrap (lf - 1) = lf - 1 := by rw [IntKind.wrap_i64]; omega
  have HE := Lib.hid (And.intro (h.set_st 0) (only_set w p 6 (.int .i64 0)))
  obtain ⟨-, -, -, -, -, e5, e6, e7⟩ := h.cells
  have f5 := h.thawed 5
  have f6 := h.thawed 6
  have f7 := h.thawed 7
  have f56 := fun u => (h.set_lf u).thawed 6
  have f67 := fun u => (h.set_st u).thawed 7
  have hfw : (f == wy) = false := by simpa using hf
  clear h h01 hf hl hm
  go_enter Tryd.func14, Tryd.ntmps14
  go_wp2_with fail
  refine (HD.out).mono ?_
  rintro e w' ⟨rfl, rfl⟩
  go_wp2
  refine bodyPost_end (results_none rfl _ _ _) rfl ?_
  exact ⟨rfl, HE.out⟩
theorem Mark_tell {w : World} {p : Nat} {T N L G r : Int} {s : MkM.St} (h : Marks w p T N L G r s) {f : Int} (hf : 0 ≤ f ∧ f < 18446744073709551616) : Calls Tryd.prog 14 #[.pointer (some ⟨p, 0, none⟩), .int .u64 f] w fun e w' => e = .returned (.tuple #[]) ∧ Marks w' p T N L G r (markT s f) ∧ Only (fun k => k = p) w w' := by
  obtain ⟨h1, h2, hr⟩ := h
  have hok := markT_ok h2 hf
  obtain ⟨lf, st, wy⟩ := s
  have hl := h2.lf
  have hs := h2.st
  simp only at h1 hl hs
  by_cases h0 : lf = 0
  · subst h0
    rw [markT_0] at hok ⊢
    refine (tell_done h1).mono ?_
    rintro e w' ⟨rfl, rfl⟩
    exact ⟨rfl, ⟨h1, hok, hr⟩, Only.refl _ _⟩
  · rcases hs with rfl | rfl
    · by_cases hf2 : f % 2 = 1
      · rw [markT_on h0 hf2] at hok ⊢
        refine (tell_on h1 h0 (by omega) hf hf2).mono ?_
        rintro e w' ⟨rfl, h3, h4⟩
        exact ⟨rfl, ⟨h3, hok, hr⟩, h4⟩
      · rw [markT_to h0 hf2] at hok ⊢
        refine (tell_to h1 h0 (by omega) hf hf2).mono ?_
        rintro e w' ⟨rfl, h3, h4⟩
        exact ⟨rfl, ⟨h3, hok, hr⟩, h4⟩
    · by_cases hf2 : f = wy
      · rw [markT_won h0 hf2] at hok ⊢
        refine (tell_won h1 h0 (by omega) hf hf2).mono ?_
        rintro e w' ⟨rfl, h3, h4⟩
        exact ⟨rfl, ⟨h3, hok, hr⟩, h4⟩
      · rw [markT_lost h0 hf2] at hok ⊢
        refine (tell_lost h1 h0 (by omega) hf hf2).mono ?_
        rintro e w' ⟨rfl, h3, h4⟩
        exact ⟨rfl, ⟨h3, hok, hr⟩, h4⟩
end Go.Proofs.YtpefngpmbladeaaDoor.Mk
