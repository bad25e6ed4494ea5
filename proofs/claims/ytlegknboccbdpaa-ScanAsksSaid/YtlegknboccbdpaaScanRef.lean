/- The document's answer for layer 27 (package sundialref27), on a tape that may hold deeds already: just what a scanner asks for, and whether it has seen something. -/
import Derived.Test.YtlegknboccbdpaaTapeRun
import Derived.Test.YtlegknboccbdpaaScanMath
import Derived.Test.YtlegknboccbdpaaPlanRef
import Derived.Test.YtlegknboccbdpaaReferRef
import Derived.Test.YtlegknboccbdpaaStateRef
import Derived.Test.YtlegknboccbdpaaNextRef
import Derived.Deep.DeepCutAuto
import Derived.Deep.RegionHeld3
namespace Go.Proofs.Ytlegknboccbdpaa.ScanRef
set_option maxRecDepth 20000
open Go.ChangeShapes Go.WideShapes Go.RowKit CM DM PM KM ScM Runs Lay Ints Plan Go.Proofs.Ytlegknboccbdpaa.Task Go.Proofs.Ytlegknboccbdpaa.Tape
open Go.Proofs.Ytlegknboccbdpaa.TapeRun (outLen outLen_is plan4 Kept)
open ClM (genI)
set_option linter.unusedVariables false
set_option linter.unusedSimpArgs false

abbrev Word (f : Int) : Prop := 0 ≤ f ∧ f < 18446744073709551616
theorem word_zero : Word 0 := ⟨by decide, by decide⟩
/-- The run goes on: the tape holds k deeds. -/
abbrev Going (Q : Nat → Prop) (W : World) (x : Nat) (fs : List Int) (pre : List D) (T L lm : Int) (k : Nat) (s : ScM.St) : Prop := TapeRun.Going (scanA T L) (scanT lm) (fun _ s => ScM.Ok s) Q W x fs pre ScM.start k s
/-- The tape has stopped. -/
abbrev Stopped (Q : Nat → Prop) (W : World) (x : Nat) (fs : List Int) (pre : List D) (T L lm : Int) (s : ScM.St) : Prop := TapeRun.Stopped (scanA T L) (scanT lm) Q W x fs pre ScM.start s
def Ran (Q : Nat → Prop) (W : World) (x : Nat) (fs : List Int) (pre : List D) (T L lm : Int) (k : Nat) (s : ScM.St) : Prop := Going Q W x fs pre T L lm k s ∨ ∃ s', Stopped Q W x fs pre T L lm s' ∧ s'.sn = false
section
variable {P Q : Nat → Prop} {w w' W W' : World} {x k b : Nat} {fs : List Int} {pre : List D} {T N G L lm i y : Int} {s s' : ScM.St}
theorem Ran.later (h : Ran Q W x fs pre T L lm k s) (hb : Below W.heap.size W W') : Ran Q W' x fs pre T L lm k s := by
  rcases h with h | ⟨s', h1, h2⟩
  · exact .inl (TapeRun.Going.later h hb)
  · exact .inr ⟨s', TapeRun.Stopped.later h1 hb, h2⟩
theorem Ran.measure {j : Nat} (h : Ran Q W x fs pre T L lm j s) (hj : k < j) (hk : k ≤ fs.length) : k < outLen x W := by
  rcases h with h | ⟨s', h1, -⟩
  · rw [TapeRun.Going.measure h]; exact hj
  · rw [TapeRun.Stopped.measure h1]; omega
/-- The plan's box, beside the tape. -/
structure At (P Q : Nat → Prop) (w : World) (T N L G : Int) (W : World) : Prop where
  sub : ∀ k, P k → Q k
  box : Q w.heap.size
  plan : W.cell? ⟨w.heap.size, 0, none⟩ = some (.int .i64 T) ∧ W.cell? ⟨w.heap.size, 1, none⟩ = some (.int .i64 N) ∧ W.cell? ⟨w.heap.size, 2, none⟩ = some (.int .i64 L) ∧ W.cell? ⟨w.heap.size, 3, none⟩ = some (.int .u64 G)
  only : Only (fun k => ¬ P k) w W
theorem At.later (h : At P Q w T N L G W) (hb : Below W.heap.size W W') : At P Q w T N L G W' := ⟨h.sub, h.box, plan4 h.plan (only_below (fun _ => False) hb) id, h.only.then_below hb⟩
theorem At.kept (h : At P Q w T N L G W) (hk : Kept Q x W W') : At P Q w T N L G W' := ⟨h.sub, h.box, plan4 h.plan hk.1 (fun q => q h.box), h.only.trans (hk.1.wide fun k q => .inl fun z => q (h.sub k z))⟩
theorem go_load (h : Going Q W x fs pre T L lm k s) (hf : ∀ f ∈ fs, Word f) (ha : scanA T L s = some (1, i, 0, 0, y)) : Calls Try.prog 23 #[.pointer (some ⟨x, 0, none⟩), .int .i64 i, .int .u64 y] W fun e W' => ∃ f, e = .returned (.int .u64 f) ∧ Word f ∧ Kept Q x W W' ∧ (Going Q W' x fs pre T L lm (k + 1) (scanT lm s f) ∨ (f = 0 ∧ Stopped Q W' x fs pre T L lm s)) := TapeRun.go_load h hf (fun f hw hk => scanT_ok hk hw) i y ha
theorem stop_load (h : Stopped Q W x fs pre T L lm s) : Calls Try.prog 23 #[.pointer (some ⟨x, 0, none⟩), .int .i64 i, .int .u64 y] W fun e W' => e = .returned (.int .u64 0) ∧ W = W' := TapeRun.stop_load h i y
/-- The Load of a way on. -/
theorem ran_next (h : Ran Q W x fs pre T L lm k s) (hf : ∀ f ∈ fs, Word f) (ha : scanA T L s = some (1, i, 0, 0, y)) (ht : ∀ f, scanT lm s f = arrive s f) (hsn : s.sn = false) : Calls Try.prog 23 #[.pointer (some ⟨x, 0, none⟩), .int .i64 i, .int .u64 y] W fun e W' => ∃ f, e = .returned (.int .u64 f) ∧ Word f ∧ Kept Q x W W' ∧ Ran Q W' x fs pre T L lm (k + 1) (arrive s f) := by
  rcases h with h | ⟨s', h1, h2⟩
  · refine (go_load h hf ha).mono ?_
    rintro e W' ⟨f, q1, q2, q3, q4⟩
    refine ⟨f, q1, q2, q3, ?_⟩
    rcases q4 with q4 | ⟨-, q4⟩
    · exact .inl (ht f ▸ q4)
    · exact .inr ⟨s, q4, hsn⟩
  · refine (stop_load h1).mono ?_
    rintro e W' ⟨q1, rfl⟩
    exact ⟨0, q1, word_zero, ⟨Only.refl _ _, rfl⟩, .inr ⟨s', h1, h2⟩⟩
/-- What the document's scan ends in. -/
def ScanRan (P : Nat → Prop) (w : World) (x : Nat) (fs : List Int) (pre : List D) (T L lm : Int) (e : Ending) (w' : World) : Prop :=
  ∃ s out, e = .returned (.bool s.sn) ∧ Fins (scanA T L) (scanT lm) fs pre ScM.start out s ∧ Tp P w' x fs out (scanA T L s).isSome ∧ Only (fun k => ¬ P k) w w'
theorem ended (ha : At P Q w T N L G W) (h : Going Q W x fs pre T L lm k s) (h0 : scanA T L s = none) {v : Bool} (hv : s.sn = v) : ScanRan P w x fs pre T L lm (.returned (.bool v)) W := by
  subst hv
  obtain ⟨out, h1, h2⟩ := TapeRun.Going.done h h0 ha.sub
  exact ⟨s, out, rfl, h1, h2, ha.only⟩
theorem ended_stop (ha : At P Q w T N L G W) (h : Stopped Q W x fs pre T L lm s) (hv : s.sn = false) : ScanRan P w x fs pre T L lm (.returned (.bool false)) W := by
  rw [← hv]
  obtain ⟨out, h1, h2⟩ := TapeRun.Stopped.done h ha.sub
  exact ⟨s, out, rfl, h1, h2, ha.only⟩
/-- Amid the loop. -/
def Head (P Q : Nat → Prop) (w : World) (x : Nat) (fs : List Int) (pre : List D) (T N L G lm : Int) (wv : Value) (wr : World) : Prop :=
  ∃ k st cu f, wv = .int .u64 f ∧ Word f ∧ At P Q w T N L G wr ∧ Ran Q wr x fs pre T L lm k (arrive ⟨st, cu, false⟩ f)
end
theorem less_left {a b c k : Nat} (h1 : k < a) (h2 : b = k) (h3 : k ≤ c) : c + 2 - a < c + 2 - b := by omega
theorem live_zero (r : Int) : ((0 : Int) == SM.stI (genI r) 2) = false := by
  have : ¬ (0 : Int) = SM.stI (genI r) 2 := by unfold SM.stI; omega
  simpa using this
theorem wrap_zero : wrap64 0 = 0 := wrap_in (by omega)
set_option maxHeartbeats 400000 in
theorem Scan_runs {P : Nat → Prop} {x : Nat} {w : World} {fs : List Int} {pre : List D} (hT : Tp P w x fs pre false) (hle : pre.length ≤ fs.length) (hf : ∀ f ∈ fs, 0 ≤ f ∧ f < 18446744073709551616) (T N L G lm : Int) : Calls Try.prog 8 #[.pointer (some ⟨x, 0, none⟩), .agg #[.int .i64 T, .int .i64 N, .int .i64 L, .int .u64 G], .int .i64 lm] w (ScanRan P w x fs pre T L lm) := by
  have HF := Lib.hid (show ∀ f ∈ fs, Word f from hf)
  obtain ⟨Q, hQ⟩ : ∃ Q : Nat → Prop, Q = fun k => P k ∨ k = w.heap.size := ⟨_, rfl⟩
  have HT0 := Lib.hid (show Going Q (w.alloc (.cells #[.int .i64 T, .int .i64 N, .int .i64 L, .int .u64 G] 24)) x fs pre T L lm pre.length ScM.start from by rw [hQ]; exact TapeRun.Going.start (hT.more _) hle start_ok)
  have HA0 := Lib.hid (show At P Q w T N L G (w.alloc (.cells #[.int .i64 T, .int .i64 N, .int .i64 L, .int .u64 G] 24)) from by rw [hQ]; exact ⟨fun k e => .inl e, .inr rfl, box4 w (.int .i64 T) (.int .i64 N) (.int .i64 L) (.int .u64 G) 24, only_alloc _ _ _⟩)
  clear hf hT hle hQ
  obtain ⟨c_0, c_1, c_2, c_3⟩ := HA0.out.plan
  go_enter Try.func8, Try.ntmps8
  go_wp2_with fail
  refine (PlanRef.Next_any T N L G 0 0 _).mono ?_
  rintro e w2 ⟨rfl, b2⟩
  have HR2 := Lib.hid (show Ran Q w2 x fs pre T L lm pre.length ScM.start from .inl (TapeRun.Going.later HT0.out b2))
  have HA2 := Lib.hid (HA0.out.later b2)
  clear b2 c_0 c_1 c_2 c_3
  go_wp2_with fail
  refine (ran_next HR2.out HF.out scanA_1 (fun _ => scanT_1) rfl).mono ?_
  rintro e w3 ⟨f3, rfl, hw3, hk3, hr3⟩
  have HST := Lib.hid (show Head P Q w x fs pre T N L G lm (.int .u64 f3) w3 from ⟨_, 1, 0, f3, rfl, hw3, HA2.out.kept hk3, hr3⟩)
  clear hw3 hk3 hr3 HR2 HA2 HT0 HA0
  go_wp2
  go_loopw [7] (fun wv wr => Head P Q w x fs pre T N L G lm wv wr) (fun _ wr => fs.length + 2 - outLen x wr)
  case atStart => exact HST.out
  case round =>
    obtain ⟨k, st, cu, f, rfl, hw, ha, hr⟩ := hrel
    have HAT := Lib.hid ha
    have HNO := Lib.hid fun W => Ref02.None_any f hw.1 hw.2 W
    rw [show f % 4294967296 / 2 = idx f from rfl] at HNO
    rcases hr with hg | ⟨s', hs, hs1⟩
    · have c4 := TapeRun.Going.stop hg
      have HKL := Lib.hid (TapeRun.Going.len hg).1
      have HMW := Lib.hid (TapeRun.Going.measure hg)
      by_cases h2 : idx f = 0
      · have HEND := Lib.hid (ended ha hg (by rw [arrive_done h2]; exact scanA_0) (v := false) (by rw [arrive_done h2]))
        rw [decide_eq_true h2] at HNO
        clear ha hg h2 hw
        go_wp2_with fail
        refine (HNO.out _).mono ?_
        rintro e w' ⟨rfl, rfl⟩
        go_wp2
        go_ret
        exact HEND.out
      · rw [arrive_more h2] at hg
        simp only at hg
        rw [decide_eq_false h2] at HNO
        have HPL := Lib.hid fun W => Ref02.Plain_any f hw.1 hw.2 W
        rw [show f - f % 2 = plainI f from rfl] at HPL
        have hr : Word (plainI f) := (plain_word hw).1
        generalize plainI f = r at HPL hr hg
        have HIX := Lib.hid fun W => Ref02.Index_any r hr.1 hr.2 W
        rw [show r % 4294967296 / 2 = idx r from rfl] at HIX
        have HGN := Lib.hid fun W => Ref02.Gen_any r hr.1 hr.2 W
        rw [show r / 4294967296 = genI r from rfl] at HGN
        have hgn : 0 ≤ genI r := by unfold genI; omega
        have HO2 := Lib.hid fun W => Ref04.Of_any (genI r) 2 hgn W
        have HNX := Lib.hid fun W => NextRef.Next_any T N L G 0 hr W
        have HSL := Lib.hid fun j W => PlanRef.Slot_any T N L G (idx r) j W
        have HG := Lib.hid hg
        obtain ⟨i, hi2⟩ : ∃ i, i = idx r := ⟨_, rfl⟩
        rw [← hi2] at HIX HSL
        have HW3 := Lib.hid (show scanA T L ⟨3, r, false⟩ = some (1, atI T L i 1, 0, 0, r) from by rw [hi2]; exact scanA_3)
        have HW4 := Lib.hid (show scanA T L ⟨4, r, false⟩ = some (1, atI T L i 0, 0, 0, 0) from by rw [hi2]; exact scanA_4)
        obtain ⟨c_0, c_1, c_2, c_3⟩ := ha.plan
        clear ha hg h2 hw hr hgn hi2
        go_wp2_with fail
        refine (HNO.out _).mono ?_
        rintro e w' ⟨rfl, rfl⟩
        go_wp2_with fail
        refine (HPL.out _).mono ?_
        rintro e w' ⟨rfl, rfl⟩
        go_wp2_with fail
        refine (HIX.out _).mono ?_
        rintro e w' ⟨rfl, rfl⟩
        go_wp2_with fail
        refine (HSL.out 1 _).mono ?_
        rintro e w4 ⟨rfl, b4⟩
        have HG4 := Lib.hid (TapeRun.Going.later HG.out b4)
        have HA4 := Lib.hid (HAT.out.later b4)
        clear b4 c_0 c_1 c_2 c_3 c4 HNO HPL
        go_wp2_with fail
        refine (go_load HG4.out HF.out HW3.out).mono ?_
        rintro e w5 ⟨f5, rfl, hw5, hk5, hg5 | ⟨rfl, hs5⟩⟩
        · have HA5 := Lib.hid (HA4.out.kept hk5)
          have HG5 := Lib.hid hg5
          have c4 := TapeRun.Going.stop hg5
          clear hg5 hk5 hw5
          by_cases hd : lm ≤ wrap64 f5
          · have HEND := Lib.hid (ended HA5.out (scanT_3s hd ▸ HG5.out) scanA_0 (v := false) rfl)
            go_wp2
            go_ret
            exact HEND.out
          · have HG5b := Lib.hid (scanT_3 hd ▸ HG5.out)
            clear HG5
            obtain ⟨c_0, c_1, c_2, c_3⟩ := HA5.out.plan
            go_wp2_with fail
            refine (HSL.out 0 _).mono ?_
            rintro e w6 ⟨rfl, b6⟩
            have HG6 := Lib.hid (TapeRun.Going.later HG5b.out b6)
            have HA6 := Lib.hid (HA5.out.later b6)
            clear b6 c_0 c_1 c_2 c_3 c4
            go_wp2_with fail
            refine (go_load HG6.out HF.out HW4.out).mono ?_
            rintro e w7 ⟨f7, rfl, hw7, hk7, hg7 | ⟨rfl, hs7⟩⟩
            · have HA7 := Lib.hid (HA6.out.kept hk7)
              have HG7 := Lib.hid hg7
              have c4 := TapeRun.Going.stop hg7
              clear hg7 hk7 hw7
              by_cases hl : f7 = SM.stI (genI r) 2
              · have HEND := Lib.hid (ended HA7.out (scanT_4s hl ▸ HG7.out) scanA_0 (v := true) rfl)
                have hle : (f7 == SM.stI (genI r) 2) = true := by simpa using hl
                generalize SM.stI (genI r) 2 = av at hle HO2
                clear hl
                go_wp2_with fail
                refine (HGN.out _).mono ?_
                rintro e w' ⟨rfl, rfl⟩
                go_wp2_with fail
                refine (HO2.out _).mono ?_
                rintro e w' ⟨rfl, rfl⟩
                go_wp2
                go_ret
                exact HEND.out
              · have HR7 := Lib.hid (show Ran Q w7 x fs pre T L lm (k + 2) ⟨5, r, false⟩ from .inl (scanT_4 hl ▸ HG7.out))
                have hle : (f7 == SM.stI (genI r) 2) = false := by simpa using hl
                generalize SM.stI (genI r) 2 = av at hle HO2
                clear hl
                obtain ⟨c_0, c_1, c_2, c_3⟩ := HA7.out.plan
                go_wp2_with fail
                refine (HGN.out _).mono ?_
                rintro e w' ⟨rfl, rfl⟩
                go_wp2_with fail
                refine (HO2.out _).mono ?_
                rintro e w' ⟨rfl, rfl⟩
                go_wp2_with fail
                refine (HNX.out _).mono ?_
                rintro e w19 ⟨rfl, b9⟩
                have HR9 := Lib.hid (HR7.out.later b9)
                have HA9 := Lib.hid (HA7.out.later b9)
                clear b9 c_0 c_1 c_2 c_3
                go_wp2_with fail
                refine (ran_next HR9.out HF.out scanA_5 (fun _ => scanT_5) rfl).mono ?_
                rintro e w20 ⟨f19, rfl, hw9, hk9, hr9⟩
                have HE := Lib.hid (show Head P Q w x fs pre T N L G lm (.int .u64 f19) w20 from ⟨_, 5, r, f19, rfl, hw9, HA9.out.kept hk9, hr9⟩)
                have HM := Lib.hid (hr9.measure (k := k) (by omega) HKL.out)
                clear hw9 hk9 hr9
                go_wp2
                go_roundw
                case rel => exact HE.out
                case measure => exact less_left HM.out HMW.out HKL.out
            · have HA7 := Lib.hid (HA6.out.kept hk7)
              have HR7 := Lib.hid (show Ran Q w7 x fs pre T L lm (k + 2) ⟨5, r, false⟩ from .inr ⟨_, hs7, rfl⟩)
              have c4 := TapeRun.Stopped.stop hs7
              have hle := live_zero r
              generalize SM.stI (genI r) 2 = av at hle HO2
              clear hk7 hs7
              obtain ⟨c_0, c_1, c_2, c_3⟩ := HA7.out.plan
              go_wp2_with fail
              refine (HGN.out _).mono ?_
              rintro e w' ⟨rfl, rfl⟩
              go_wp2_with fail
              refine (HO2.out _).mono ?_
              rintro e w' ⟨rfl, rfl⟩
              go_wp2_with fail
              refine (HNX.out _).mono ?_
              rintro e w19 ⟨rfl, b9⟩
              have HR9 := Lib.hid (HR7.out.later b9)
              have HA9 := Lib.hid (HA7.out.later b9)
              clear b9 c_0 c_1 c_2 c_3
              go_wp2_with fail
              refine (ran_next HR9.out HF.out scanA_5 (fun _ => scanT_5) rfl).mono ?_
              rintro e w20 ⟨f19, rfl, hw9, hk9, hr9⟩
              have HE := Lib.hid (show Head P Q w x fs pre T N L G lm (.int .u64 f19) w20 from ⟨_, 5, r, f19, rfl, hw9, HA9.out.kept hk9, hr9⟩)
              have HM := Lib.hid (hr9.measure (k := k) (by omega) HKL.out)
              clear hw9 hk9 hr9
              go_wp2
              go_roundw
              case rel => exact HE.out
              case measure => exact less_left HM.out HMW.out HKL.out
        · have HEND := Lib.hid (ended_stop (HA4.out.kept hk5) hs5 rfl)
          have c4 := TapeRun.Stopped.stop hs5
          have hz := wrap_zero
          clear hk5 hs5
          by_cases hd : lm ≤ 0
          · go_wp2
            go_ret
            exact HEND.out
          · go_wp2
            go_ret
            exact HEND.out
    · have c4 := TapeRun.Stopped.stop hs
      have HEND := Lib.hid (ended_stop ha hs hs1)
      clear ha hs hs1 hw
      go_wp2
      go_ret
      exact HEND.out
theorem Scan_run {P : Nat → Prop} {x : Nat} {w : World} {fs : List Int} (hT : Tp P w x fs [] false) (hf : ∀ f ∈ fs, 0 ≤ f ∧ f < 18446744073709551616) (T N L G lm : Int) : Calls Try.prog 8 #[.pointer (some ⟨x, 0, none⟩), .agg #[.int .i64 T, .int .i64 N, .int .i64 L, .int .u64 G], .int .i64 lm] w fun e w' =>
    ∃ s out, e = .returned (.bool s.sn) ∧ Fin (scanA T L) (scanT lm) fs ScM.start out s ∧ Tp P w' x fs out (scanA T L s).isSome ∧ Only (fun k => ¬ P k) w w' :=
  Scan_runs hT (Nat.zero_le _) hf T N L G lm
end Go.Proofs.Ytlegknboccbdpaa.ScanRef
