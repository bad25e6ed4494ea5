/- The document's answer for layer 29 (package sundialref29), on a tape that may hold deeds already: just what a parker asks for. -/
import Derived.Test.YtelnkbikgboblaaTapeRun
import Derived.Test.YtelnkbikgboblaaParkMath
import Derived.Test.YtelnkbikgboblaaPlanRef
import Derived.Deep.DeepCutAuto
import Derived.Deep.RegionHeld3
namespace Go.Proofs.Ytelnkbikgboblaa.ParkRef
set_option maxRecDepth 20000
open Go.ChangeShapes Go.WideShapes Go.RowKit CM DM PM PaM Runs Lay Ints Plan Go.Proofs.Ytelnkbikgboblaa.Task Go.Proofs.Ytelnkbikgboblaa.Tape
open Go.Proofs.Ytelnkbikgboblaa.TapeRun (outLen outLen_is plan4 Kept)
set_option linter.unusedVariables false
set_option linter.unusedSimpArgs false

abbrev Word (f : Int) : Prop := 0 ≤ f ∧ f < 18446744073709551616
/-- The run goes on: the tape holds k deeds. -/
abbrev Going (Q : Nat → Prop) (W : World) (x : Nat) (fs : List Int) (pre : List D) (pl un : Int) (k : Nat) (s : PaM.St) : Prop := TapeRun.Going (parkA pl) (parkT un) (fun _ s => PaM.Ok s) Q W x fs pre PaM.start k s
/-- The tape has stopped. -/
abbrev Stopped (Q : Nat → Prop) (W : World) (x : Nat) (fs : List Int) (pre : List D) (pl un : Int) (s : PaM.St) : Prop := TapeRun.Stopped (parkA pl) (parkT un) Q W x fs pre PaM.start s
section
variable {P Q : Nat → Prop} {w w' W W' : World} {x k b : Nat} {fs : List Int} {pre : List D} {pl un i y kd a c : Int} {s s' : PaM.St}
/-- All but the tape's own blocks, since the call began. -/
structure At (P Q : Nat → Prop) (w : World) (W : World) : Prop where
  sub : ∀ k, P k → Q k
  only : Only (fun k => ¬ P k) w W
theorem At.later (h : At P Q w W) (hb : Below W.heap.size W W') : At P Q w W' := ⟨h.sub, h.only.then_below hb⟩
theorem At.kept (h : At P Q w W) (hk : Kept Q x W W') : At P Q w W' := ⟨h.sub, h.only.trans (hk.1.wide fun k q => .inl fun z => q (h.sub k z))⟩
theorem go_load (h : Going Q W x fs pre pl un k s) (hf : ∀ f ∈ fs, Word f) (ha : parkA pl s = some (1, i, 0, 0, y)) : Calls Try.prog 14 #[.pointer (some ⟨x, 0, none⟩), .int .i64 i, .int .u64 y] W fun e W' => ∃ f, e = .returned (.int .u64 f) ∧ Word f ∧ Kept Q x W W' ∧ (Going Q W' x fs pre pl un (k + 1) (parkT un s f) ∨ (f = 0 ∧ Stopped Q W' x fs pre pl un s)) := TapeRun.go_load h hf (fun f hw hk => parkT_ok hk) i y ha
theorem go_do (h : Going Q W x fs pre pl un k s) (hf : ∀ f ∈ fs, Word f) (ha : parkA pl s = some (kd, i, a, c, y)) (ht : ∀ f, parkT un s f = s') : Calls Try.prog 15 #[.pointer (some ⟨x, 0, none⟩), .int .i64 kd, .int .i64 i, .int .u64 a, .int .u64 c, .int .u64 y] W fun e W' => ∃ f, e = .returned (.int .u64 f) ∧ Kept Q x W W' ∧ (Going Q W' x fs pre pl un (k + 1) s' ∨ Stopped Q W' x fs pre pl un s) := by
  refine (TapeRun.go_do h hf (fun f hw hk => parkT_ok hk) kd i a c y ha).mono ?_
  rintro e W' ⟨f, q1, q2, q3, q4⟩
  refine ⟨f, q1, q3, ?_⟩
  rcases q4 with q4 | ⟨-, q4⟩
  · exact .inl (ht f ▸ q4)
  · exact .inr q4
/-- What the document's parking ends in. -/
def ParkRan (P : Nat → Prop) (w : World) (x : Nat) (fs : List Int) (pre : List D) (pl un : Int) (e : Ending) (w' : World) : Prop :=
  ∃ s out, e = .returned (.tuple #[]) ∧ Fins (parkA pl) (parkT un) fs pre PaM.start out s ∧ Tp P w' x fs out (parkA pl s).isSome ∧ Only (fun k => ¬ P k) w w'
theorem ended (ha : At P Q w W) (h : Going Q W x fs pre pl un k s) (h0 : parkA pl s = none) : ParkRan P w x fs pre pl un (.returned (.tuple #[])) W := by
  obtain ⟨out, h1, h2⟩ := TapeRun.Going.done h h0 ha.sub
  exact ⟨s, out, rfl, h1, h2, ha.only⟩
theorem ended_stop (ha : At P Q w W) (h : Stopped Q W x fs pre pl un s) : ParkRan P w x fs pre pl un (.returned (.tuple #[])) W := by
  obtain ⟨out, h1, h2⟩ := TapeRun.Stopped.done h ha.sub
  exact ⟨s, out, rfl, h1, h2, ha.only⟩
/-- Amid the loop. -/
def Head (P Q : Nat → Prop) (w : World) (x : Nat) (fs : List Int) (pre : List D) (pl un : Int) (wr : World) : Prop :=
  ∃ k : Nat, At P Q w wr ∧ (Going Q wr x fs pre pl un k ⟨1⟩ ∨ ∃ s, Stopped Q wr x fs pre pl un s)
end
theorem less_left {a b c k : Nat} (h1 : k < a) (h2 : b = k) (h3 : k ≤ c) : c + 2 - a < c + 2 - b := by omega
set_option maxHeartbeats 400000 in
theorem Park_runs {P : Nat → Prop} {x : Nat} {w : World} {fs : List Int} {pre : List D} (hT : Tp P w x fs pre false) (hle : pre.length ≤ fs.length) (hf : ∀ f ∈ fs, 0 ≤ f ∧ f < 18446744073709551616) (T N L G th un : Int) : Calls Try.prog 8 #[.pointer (some ⟨x, 0, none⟩), .agg #[.int .i64 T, .int .i64 N, .int .i64 L, .int .u64 G], .int .i64 th, .int .i64 un] w (ParkRan P w x fs pre (ofI T 2 th) un) := by
  have HF := Lib.hid (show ∀ f ∈ fs, Word f from hf)
  have HSM := Lib.hid fun W => PlanRef.Sem_any T N L G th W
  generalize ofI T 2 th = pl at HSM ⊢
  obtain ⟨Q, hQ⟩ : ∃ Q : Nat → Prop, Q = fun k => P k ∨ k = w.heap.size := ⟨_, rfl⟩
  have HA0 := Lib.hid (show At P Q w (w.alloc (.cells #[.int .i64 T, .int .i64 N, .int .i64 L, .int .u64 G] 24)) from by rw [hQ]; exact ⟨fun k e => .inl e, only_alloc _ _ _⟩)
  have HG0 := Lib.hid (show Going Q (w.alloc (.cells #[.int .i64 T, .int .i64 N, .int .i64 L, .int .u64 G] 24)) x fs pre pl un pre.length PaM.start from by rw [hQ]; exact TapeRun.Going.start (hT.more _) hle start_ok)
  obtain ⟨c_0, c_1, c_2, c_3⟩ := box4 w (.int .i64 T) (.int .i64 N) (.int .i64 L) (.int .u64 G) 24
  clear hf hT hle hQ
  go_enter Try.func8, Try.ntmps8
  go_wp2_with fail
  refine (HSM.out _).mono ?_
  rintro e w1 ⟨rfl, b1⟩
  have HST := Lib.hid (show Head P Q w x fs pre pl un w1 from ⟨pre.length, HA0.out.later b1, .inl (TapeRun.Going.later HG0.out b1)⟩)
  clear b1 c_0 c_1 c_2 c_3
  go_wp2
  go_loopw [] (fun wr => Head P Q w x fs pre pl un wr) (fun wr => fs.length + 2 - outLen x wr)
  case atStart => exact HST.out
  case round =>
    obtain ⟨k, ha, hr⟩ := hrel
    have HAT := Lib.hid ha
    rcases hr with hg | ⟨s', hs⟩
    · have c4 := TapeRun.Going.stop hg
      have HKL := Lib.hid (TapeRun.Going.len hg).1
      have HMW := Lib.hid (TapeRun.Going.measure hg)
      have HG := Lib.hid hg
      clear hg ha
      go_wp2_with fail
      refine (go_load HG.out HF.out parkA_1).mono ?_
      rintro e w5 ⟨f5, rfl, hw5, hk5, hg5 | ⟨rfl, hs5⟩⟩
      · have HA5 := Lib.hid (HAT.out.kept hk5)
        have d4 := TapeRun.Going.stop hg5
        by_cases h0 : f5 = 0
        · subst h0
          rw [parkT_1z] at hg5
          have HG5 := Lib.hid hg5
          clear hg5 hk5 c4
          go_wp2_with fail
          refine (go_load HG5.out HF.out parkA_3).mono ?_
          rintro e w6 ⟨f6, rfl, hw6, hk6, hg6 | ⟨rfl, hs6⟩⟩
          · have HA6 := Lib.hid (HA5.out.kept hk6)
            have e4 := TapeRun.Going.stop hg6
            by_cases hu : un ≤ wrap64 f6
            · rw [parkT_3 hu] at hg6
              have HEND := Lib.hid (ended HA6.out hg6 parkA_0)
              clear hg6 hk6 d4
              go_wp2
              exact bodyPost_ret (v := .tuple #[]) (results_none rfl _ _ _) rfl HEND.out
            · rw [parkT_3n hu] at hg6
              have HE := Lib.hid (show Head P Q w x fs pre pl un w6 from ⟨_, HA6.out, .inl hg6⟩)
              have HM := Lib.hid (show k < outLen x w6 from by rw [TapeRun.Going.measure hg6]; omega)
              clear hg6 hk6 d4
              go_wp2
              go_roundw
              case rel => exact HE.out
              case measure => exact less_left HM.out HMW.out HKL.out
          · have HA6 := Lib.hid (HA5.out.kept hk6)
            have e4 := TapeRun.Stopped.stop hs6
            have HE := Lib.hid (show Head P Q w x fs pre pl un w6 from ⟨0, HA6.out, .inr ⟨_, hs6⟩⟩)
            have HM := Lib.hid (show k < outLen x w6 from by rw [TapeRun.Stopped.measure hs6]; have := HKL.out; omega)
            clear hs6 hk6 d4
            go_wp2
            go_roundw
            case rel => exact HE.out
            case measure => exact less_left HM.out HMW.out HKL.out
        · have hf0 : (f5 != 0) = true := by simpa using h0
          rw [parkT_1 h0] at hg5
          have HG5 := Lib.hid hg5
          clear hg5 hk5 c4 h0
          go_wp2_with fail
          refine (go_do HG5.out HF.out parkA_2 (s' := ⟨0⟩) (fun f => parkT_2)).mono ?_
          rintro e w6 ⟨f6, rfl, hk6, hg6 | hs6⟩
          · have HEND := Lib.hid (ended (HA5.out.kept hk6) hg6 parkA_0)
            clear hg6 hk6 d4
            go_wp2
            exact bodyPost_ret (v := .tuple #[]) (results_none rfl _ _ _) rfl HEND.out
          · have HEND := Lib.hid (ended_stop (HA5.out.kept hk6) hs6)
            clear hs6 hk6 d4
            go_wp2
            exact bodyPost_ret (v := .tuple #[]) (results_none rfl _ _ _) rfl HEND.out
      · have d4 := TapeRun.Stopped.stop hs5
        have HEND := Lib.hid (ended_stop (HAT.out.kept hk5) hs5)
        clear hs5 hk5 c4
        go_wp2
        exact bodyPost_ret (v := .tuple #[]) (results_none rfl _ _ _) rfl HEND.out
    · have c4 := TapeRun.Stopped.stop hs
      have HEND := Lib.hid (ended_stop ha hs)
      clear ha hs
      go_wp2
      exact bodyPost_end (results_none rfl _ _ _) rfl HEND.out
theorem Park_run {P : Nat → Prop} {x : Nat} {w : World} {fs : List Int} (hT : Tp P w x fs [] false) (hf : ∀ f ∈ fs, 0 ≤ f ∧ f < 18446744073709551616) (T N L G th un : Int) : Calls Try.prog 8 #[.pointer (some ⟨x, 0, none⟩), .agg #[.int .i64 T, .int .i64 N, .int .i64 L, .int .u64 G], .int .i64 th, .int .i64 un] w fun e w' =>
    ∃ s out, e = .returned (.tuple #[]) ∧ Fin (parkA (ofI T 2 th)) (parkT un) fs PaM.start out s ∧ Tp P w' x fs out (parkA (ofI T 2 th) s).isSome ∧ Only (fun k => ¬ P k) w w' :=
  Park_runs hT (Nat.zero_le _) hf T N L G th un
end Go.Proofs.Ytelnkbikgboblaa.ParkRef
