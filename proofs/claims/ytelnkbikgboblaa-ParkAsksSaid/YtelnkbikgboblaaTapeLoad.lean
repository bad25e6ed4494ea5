/- sundialref11.Tape: its Load and its Store (a text of its own: where a seat cuts their bodies, XTape still stands). -/
import Derived.Test.YtelnkbikgboblaaTape
namespace Go.Proofs.Ytelnkbikgboblaa.Tape
set_option maxRecDepth 20000
open Go.ChangeShapes Go.WideShapes Go.RowKit CM DM Lay Ints Cells Go.Proofs.Ytelnkbikgboblaa.Task
set_option linter.unusedVariables false
set_option linter.unusedSimpArgs false
theorem Load_stop {P : Nat → Prop} {x : Nat} {w : World} {fs : List Int} {out : List D} (hT : Tp P w x fs out true) (i y : Int) : Calls Try.prog 14 #[.pointer (some ⟨x, 0, none⟩), .int .i64 i, .int .u64 y] w fun e w' => e = .returned (.int .u64 0) ∧ w = w' := by
  go_enter Try.func14, Try.ntmps14
  go_wp2_with fail
  refine (Do_stop hT 1 i 0 0 y).mono ?_
  rintro e w' ⟨rfl, rfl⟩
  go_wp2
  go_ret
  exact ⟨rfl, rfl⟩
theorem Load_more_in {P : Nat → Prop} {x : Nat} {w : World} {fs : List Int} {out : List D} (hT : Tp P w x fs out false) {f : Int} (hf : fs[out.length]? = some f) (i y : Int) :
    Calls Try.prog 14 #[.pointer (some ⟨x, 0, none⟩), .int .i64 i, .int .u64 y] w (AskedIn P w x fs (.int .u64 f) (out ++ [(1, i, 0, 0, y)]) false) := by
  have HD := Lib.hid (Do_more_in hT hf 1 i 0 0 y)
  clear hT hf
  go_enter Try.func14, Try.ntmps14
  go_wp2_with fail
  refine (HD.out).mono ?_
  rintro e w' ⟨⟨rfl, ht, hb⟩, hin⟩
  have HIN := Lib.hid hin
  clear hin
  go_wp2
  go_ret
  exact ⟨⟨rfl, ht, hb⟩, HIN.out⟩
theorem Load_more {P : Nat → Prop} {x : Nat} {w : World} {fs : List Int} {out : List D} (hT : Tp P w x fs out false) {f : Int} (hf : fs[out.length]? = some f) (i y : Int) :
    Calls Try.prog 14 #[.pointer (some ⟨x, 0, none⟩), .int .i64 i, .int .u64 y] w (Asked P w x fs (.int .u64 f) (out ++ [(1, i, 0, 0, y)]) false) := (Load_more_in hT hf i y).mono fun _ _ h => h.1
theorem Load_last_in {P : Nat → Prop} {x : Nat} {w : World} {fs : List Int} {out : List D} (hT : Tp P w x fs out false) (hf : out.length = fs.length) (i y : Int) :
    Calls Try.prog 14 #[.pointer (some ⟨x, 0, none⟩), .int .i64 i, .int .u64 y] w (AskedIn P w x fs (.int .u64 0) (out ++ [(1, i, 0, 0, y)]) true) := by
  have HD := Lib.hid (Do_last_in hT hf 1 i 0 0 y)
  clear hT hf
  go_enter Try.func14, Try.ntmps14
  go_wp2_with fail
  refine (HD.out).mono ?_
  rintro e w' ⟨⟨rfl, ht, hb⟩, hin⟩
  have HIN := Lib.hid hin
  clear hin
  go_wp2
  go_ret
  exact ⟨⟨rfl, ht, hb⟩, HIN.out⟩
theorem Load_last {P : Nat → Prop} {x : Nat} {w : World} {fs : List Int} {out : List D} (hT : Tp P w x fs out false) (hf : out.length = fs.length) (i y : Int) :
    Calls Try.prog 14 #[.pointer (some ⟨x, 0, none⟩), .int .i64 i, .int .u64 y] w (Asked P w x fs (.int .u64 0) (out ++ [(1, i, 0, 0, y)]) true) := (Load_last_in hT hf i y).mono fun _ _ h => h.1
end Go.Proofs.Ytelnkbikgboblaa.Tape
