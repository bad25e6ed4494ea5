/- The document's answer for layer 28 (package sundialref28), on a tape that may hold deeds already: just what a waker asks for. -/
import Derived.Test.YtilmobnnccjmgaaTapeRun
import Derived.Test.YtilmobnnccjmgaaWakeMath
import Derived.Test.YtilmobnnccjmgaaPlanRef
import Derived.Deep.DeepCutAuto
import Derived.Deep.RegionHeld3
namespace Go.Proofs.Ytilmobnnccjmgaa.WakeRef
set_option maxRecDepth 20000
open Go.ChangeShapes Go.WideShapes Go.RowKit CM DM PM WkM Runs Lay Ints Plan Go.Proofs.Ytilmobnnccjmgaa.Task Go.Proofs.Ytilmobnnccjmgaa.Tape
open Go.Proofs.Ytilmobnnccjmgaa.TapeRun (outLen outLen_is plan4 Kept)
set_option linter.unusedVariables false
set_option linter.unusedSimpArgs false

abbrev Word (f : Int) : Prop := 0 ≤ f ∧ f < 18446744073709551616
/-- The run goes on: the tape holds k deeds. -/
abbrev Going (Q : Nat → Prop) (W : World) (x : Nat) (fs : List Int) (pre : List D) (T dl : Int) (k : Nat) (s : WkM.St) : Prop := TapeRun.Going (wakeA T) (wakeT T dl) (fun _ s => WkM.Ok T s) Q W x fs pre WkM.start k s
/-- The tape has stopped. -/
abbrev Stopped (Q : Nat → Prop) (W : World) (x : Nat) (fs : List Int) (pre : List D) (T dl : Int) (s : WkM.St) : Prop := TapeRun.Stopped (wakeA T) (wakeT T dl) Q W x fs pre WkM.start s
def Ran (Q : Nat → Prop) (W : World) (x : Nat) (fs : List Int) (pre : List D) (T dl : Int) (k : Nat) (s : WkM.St) : Prop := Going Q W x fs pre T dl k s ∨ ∃ s', Stopped Q W x fs pre T dl s'
section
variable {P Q : Nat → Prop} {w w' W W' : World} {x k b : Nat} {fs : List Int} {pre : List D} {T N G L dl i y kd a c : Int} {s s' : WkM.St}
theorem Ran.measure {j : Nat} (h : Ran Q W x fs pre T dl j s) (hj : k < j) (hk : k ≤ fs.length) : k < outLen x W := by
  rcases h with h | ⟨s', h1⟩
  · rw [TapeRun.Going.measure h]; exact hj
  · rw [TapeRun.Stopped.measure h1]; omega
/-- The plan's box, beside the tape. -/
structure At (P Q : Nat → Prop) (w : World) (T N L G : Int) (W : World) : Prop where
  sub : ∀ k, P k → Q k
  box : Q w.heap.size
  plan : W.cell? ⟨w.heap.size, 0, none⟩ = some (.int .i64 T) ∧ W.cell? ⟨w.heap.size, 1, none⟩ = some (.int .i64 N) ∧ W.cell? ⟨w.heap.size, 2, none⟩ = some (.int .i64 L) ∧ W.cell? ⟨w.heap.size, 3, none⟩ = some (.int .u64 G)
  only : Only (fun k => ¬ P k) w W
theorem At.later (h : At P Q w T N L G W) (hb : Below W.heap.size W W') : At P Q w T N L G W' := ⟨h.sub, h.box, plan4 h.plan (only_below (fun _ => False) hb) id, h.only.then_below hb⟩
theorem At.kept (h : At P Q w T N L G W) (hk : Kept Q x W W') : At P Q w T N L G W' := ⟨h.sub, h.box, plan4 h.plan hk.1 (fun q => q h.box), h.only.trans (hk.1.wide fun k q => .inl fun z => q (h.sub k z))⟩
theorem go_load (h : Going Q W x fs pre T dl k s) (hf : ∀ f ∈ fs, Word f) (ha : wakeA T s = some (1, i, 0, 0, y)) : Calls Try.prog 17 #[.pointer (some ⟨x, 0, none⟩), .int .i64 i, .int .u64 y] W fun e W' => ∃ f, e = .returned (.int .u64 f) ∧ Word f ∧ Kept Q x W W' ∧ (Going Q W' x fs pre T dl (k + 1) (wakeT T dl s f) ∨ (f = 0 ∧ Stopped Q W' x fs pre T dl s)) := TapeRun.go_load h hf (fun f hw hk => wakeT_ok hk) i y ha
theorem go_do (h : Going Q W x fs pre T dl k s) (hf : ∀ f ∈ fs, Word f) (ha : wakeA T s = some (kd, i, a, c, y)) (ht : ∀ f, wakeT T dl s f = s') : Calls Try.prog 19 #[.pointer (some ⟨x, 0, none⟩), .int .i64 kd, .int .i64 i, .int .u64 a, .int .u64 c, .int .u64 y] W fun e W' => ∃ f, e = .returned (.int .u64 f) ∧ Kept Q x W W' ∧ Ran Q W' x fs pre T dl (k + 1) s' := by
  refine (TapeRun.go_do h hf (fun f hw hk => wakeT_ok hk) kd i a c y ha).mono ?_
  rintro e W' ⟨f, q1, q2, q3, q4⟩
  refine ⟨f, q1, q3, ?_⟩
  rcases q4 with q4 | ⟨-, q4⟩
  · exact .inl (ht f ▸ q4)
  · exact .inr ⟨s, q4⟩
/-- What the document's waking ends in. -/
def WakeRan (P : Nat → Prop) (w : World) (x : Nat) (fs : List Int) (pre : List D) (T dl : Int) (e : Ending) (w' : World) : Prop :=
  ∃ s out, e = .returned (.tuple #[]) ∧ Fins (wakeA T) (wakeT T dl) fs pre WkM.start out s ∧ Tp P w' x fs out (wakeA T s).isSome ∧ Only (fun k => ¬ P k) w w'
theorem ended (ha : At P Q w T N L G W) (h : Going Q W x fs pre T dl k s) (h0 : wakeA T s = none) : WakeRan P w x fs pre T dl (.returned (.tuple #[])) W := by
  obtain ⟨out, h1, h2⟩ := TapeRun.Going.done h h0 ha.sub
  exact ⟨s, out, rfl, h1, h2, ha.only⟩
theorem ended_stop (ha : At P Q w T N L G W) (h : Stopped Q W x fs pre T dl s) : WakeRan P w x fs pre T dl (.returned (.tuple #[])) W := by
  obtain ⟨out, h1, h2⟩ := TapeRun.Stopped.done h ha.sub
  exact ⟨s, out, rfl, h1, h2, ha.only⟩
/-- Amid the loop. -/
def Head (P Q : Nat → Prop) (w : World) (x : Nat) (fs : List Int) (pre : List D) (T N L G dl : Int) (iv : Value) (wr : World) : Prop :=
  ∃ k j : Nat, iv = .int .i64 j ∧ At P Q w T N L G wr ∧ Ran Q wr x fs pre T dl k ⟨(j : Int), false⟩
end
theorem less_left {a b c k : Nat} (h1 : k < a) (h2 : b = k) (h3 : k ≤ c) : c + 2 - a < c + 2 - b := by omega
theorem due_word (dl : Int) : IntKind.u64.wrap (IntKind.u64.wrap dl + 1) = dueW dl := by
  simp only [IntKind.wrap_u64]
  unfold dueW
  omega
set_option maxHeartbeats 400000 in
theorem Wake_runs {P : Nat → Prop} {x : Nat} {w : World} {fs : List Int} {pre : List D} (hT : Tp P w x fs pre false) (hle : pre.length ≤ fs.length) (hf : ∀ f ∈ fs, 0 ≤ f ∧ f < 18446744073709551616) {T : Int} (hmax : T ≤ 9223372036854775807) (N L G dl : Int) : Calls Try.prog 8 #[.pointer (some ⟨x, 0, none⟩), .agg #[.int .i64 T, .int .i64 N, .int .i64 L, .int .u64 G], .int .i64 dl] w (WakeRan P w x fs pre T dl) := by
  have HF := Lib.hid (show ∀ f ∈ fs, Word f from hf)
  have HMX := Lib.hid hmax
  obtain ⟨Q, hQ⟩ : ∃ Q : Nat → Prop, Q = fun k => P k ∨ k = w.heap.size := ⟨_, rfl⟩
  have HA0 := Lib.hid (show At P Q w T N L G (w.alloc (.cells #[.int .i64 T, .int .i64 N, .int .i64 L, .int .u64 G] 24)) from by rw [hQ]; exact ⟨fun k e => .inl e, .inr rfl, box4 w (.int .i64 T) (.int .i64 N) (.int .i64 L) (.int .u64 G) 24, only_alloc _ _ _⟩)
  have HST := Lib.hid (show Head P Q w x fs pre T N L G dl (.int .i64 (0 : Nat)) (w.alloc (.cells #[.int .i64 T, .int .i64 N, .int .i64 L, .int .u64 G] 24)) from ⟨pre.length, 0, rfl, HA0.out, .inl (by rw [hQ]; exact TapeRun.Going.start (hT.more _) hle (start_ok T))⟩)
  have hdw := due_word dl
  have HD0 := Lib.hid (due_lo (dl := dl))
  clear hf hT hle hQ hmax
  go_enter Try.func8, Try.ntmps8
  go_wp2
  go_loopw [6] (fun iv wr => Head P Q w x fs pre T N L G dl iv wr) (fun _ wr => fs.length + 2 - outLen x wr)
  case atStart => exact HST.out
  case round =>
    obtain ⟨k, j, rfl, ha, hr⟩ := hrel
    have HAT := Lib.hid ha
    rcases hr with hg | ⟨s', hs⟩
    · have c4 := TapeRun.Going.stop hg
      have HKL := Lib.hid (TapeRun.Going.len hg).1
      have HMW := Lib.hid (TapeRun.Going.measure hg)
      have HG := Lib.hid hg
      obtain ⟨c_0, c_1, c_2, c_3⟩ := ha.plan
      by_cases hlt : (j : Int) < T
      · have HA1 := Lib.hid (show wakeA T ⟨(j : Int), false⟩ = some (1, ofI T 1 (j : Int), 0, 0, 0) from wakeA_look hlt)
        have HA2 := Lib.hid (show wakeA T ⟨(j : Int), true⟩ = some (4, ofI T 2 (j : Int), 1, 0, 0) from wakeA_add hlt)
        have HT2 := Lib.hid (show ∀ f, wakeT T dl ⟨(j : Int), true⟩ f = ⟨(j : Int) + 1, false⟩ from fun f => wakeT_add hlt)
        have HTL := Lib.hid (show ∀ f, dueW dl < f → wakeT T dl ⟨(j : Int), false⟩ f = ⟨(j : Int), true⟩ from fun f h => wakeT_long hlt h)
        have HTN := Lib.hid (show ∀ f, ¬ dueW dl < f → wakeT T dl ⟨(j : Int), false⟩ f = ⟨(j : Int) + 1, false⟩ from fun f h => wakeT_not hlt h)
        have HSL := Lib.hid fun W => PlanRef.Sleep_any T N L G (j : Int) W
        have HSM := Lib.hid fun W => PlanRef.Sem_any T N L G (j : Int) W
        generalize ofI T 1 (j : Int) = pl at HA1 HSL
        generalize ofI T 2 (j : Int) = pm at HA2 HSM
        have hj63 : (j : Int) + 1 ≤ 9223372036854775807 := by have := HMX.out; omega
        have hwj : IntKind.i64.wrap ((j : Int) + 1) = ((j + 1 : Nat) : Int) := by rw [IntKind.wrap_i64]; omega
        have HJJ := Lib.hid (show ((j + 1 : Nat) : Int) = (j : Int) + 1 by omega)
        generalize dueW dl = dw at HD0 HTL HTN hdw
        clear hg ha
        go_wp2_with fail
        refine (HSL.out _).mono ?_
        rintro e w4 ⟨rfl, b4⟩
        have HG4 := Lib.hid (TapeRun.Going.later HG.out b4)
        have HA4 := Lib.hid (HAT.out.later b4)
        clear b4 c_0 c_1 c_2 c_3 c4
        go_wp2_with fail
        refine (go_load HG4.out HF.out HA1.out).mono ?_
        rintro e w5 ⟨f5, rfl, hw5, hk5, hg5 | ⟨rfl, hs5⟩⟩
        · have HA5 := Lib.hid (HA4.out.kept hk5)
          have HG5 := Lib.hid hg5
          clear hg5 hk5
          by_cases hd : dw < f5
          · have hf0 : (f5 != 0) = true := by have := HD0.out; simp; omega
            have HG6 := Lib.hid (HTL.out f5 hd ▸ HG5.out)
            obtain ⟨c_0, c_1, c_2, c_3⟩ := HA5.out.plan
            go_wp2_with fail
            refine (HSM.out _).mono ?_
            rintro e w6 ⟨rfl, b6⟩
            have HG7 := Lib.hid (TapeRun.Going.later HG6.out b6)
            have HA7 := Lib.hid (HA5.out.later b6)
            clear b6 c_0 c_1 c_2 c_3 HG5 HG6
            go_wp2_with fail
            refine (go_do HG7.out HF.out HA2.out HT2.out).mono ?_
            rintro e w8 ⟨f8, rfl, hk8, hr8⟩
            have HE := Lib.hid (show Head P Q w x fs pre T N L G dl (.int .i64 ((j + 1 : Nat) : Int)) w8 from ⟨_, j + 1, rfl, HA7.out.kept hk8, by rw [HJJ.out]; exact hr8⟩)
            have HM := Lib.hid (hr8.measure (k := k) (by omega) HKL.out)
            clear hk8 hr8
            go_wp2
            go_roundw
            case rel => exact HE.out
            case measure => exact less_left HM.out HMW.out HKL.out
          · have HR6 := Lib.hid (show Ran Q w5 x fs pre T dl (k + 1) ⟨(j : Int) + 1, false⟩ from .inl (HTN.out f5 (by omega) ▸ HG5.out))
            have HE := Lib.hid (show Head P Q w x fs pre T N L G dl (.int .i64 ((j + 1 : Nat) : Int)) w5 from ⟨_, j + 1, rfl, HA5.out, by rw [HJJ.out]; exact HR6.out⟩)
            have HM := Lib.hid (HR6.out.measure (k := k) (by omega) HKL.out)
            by_cases h0 : f5 = 0
            · have hf0 : (f5 != 0) = false := by simpa using h0
              clear h0
              go_wp2
              go_roundw
              case rel => exact HE.out
              case measure => exact less_left HM.out HMW.out HKL.out
            · have hf0 : (f5 != 0) = true := by simpa using h0
              clear h0 hw5 hj63
              go_wp2
              go_roundw
              case rel => exact HE.out
              case measure => exact less_left HM.out HMW.out HKL.out
        · have HR6 := Lib.hid (show Ran Q w5 x fs pre T dl (k + 1) ⟨(j : Int) + 1, false⟩ from .inr ⟨_, hs5⟩)
          have HE := Lib.hid (show Head P Q w x fs pre T N L G dl (.int .i64 ((j + 1 : Nat) : Int)) w5 from ⟨_, j + 1, rfl, HA4.out.kept hk5, by rw [HJJ.out]; exact HR6.out⟩)
          have HM := Lib.hid (HR6.out.measure (k := k) (by omega) HKL.out)
          clear hk5 hs5
          go_wp2
          go_roundw
          case rel => exact HE.out
          case measure => exact less_left HM.out HMW.out HKL.out
      · have HEND := Lib.hid (ended ha hg (wakeA_done hlt))
        clear hg ha
        go_wp2
        exact bodyPost_end (results_none rfl _ _ _) rfl HEND.out
    · have c4 := TapeRun.Stopped.stop hs
      obtain ⟨c_0, c_1, c_2, c_3⟩ := ha.plan
      have HEND := Lib.hid (ended_stop ha hs)
      clear ha hs
      by_cases hlt : (j : Int) < T
      · go_wp2
        exact bodyPost_end (results_none rfl _ _ _) rfl HEND.out
      · go_wp2
        exact bodyPost_end (results_none rfl _ _ _) rfl HEND.out
theorem Wake_run {P : Nat → Prop} {x : Nat} {w : World} {fs : List Int} (hT : Tp P w x fs [] false) (hf : ∀ f ∈ fs, 0 ≤ f ∧ f < 18446744073709551616) {T : Int} (hmax : T ≤ 9223372036854775807) (N L G dl : Int) : Calls Try.prog 8 #[.pointer (some ⟨x, 0, none⟩), .agg #[.int .i64 T, .int .i64 N, .int .i64 L, .int .u64 G], .int .i64 dl] w fun e w' =>
    ∃ s out, e = .returned (.tuple #[]) ∧ Fin (wakeA T) (wakeT T dl) fs WkM.start out s ∧ Tp P w' x fs out (wakeA T s).isSome ∧ Only (fun k => ¬ P k) w w' :=
  Wake_runs hT (Nat.zero_le _) hf hmax N L G dl
end Go.Proofs.Ytilmobnnccjmgaa.WakeRef
